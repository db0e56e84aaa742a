
/-
  spec.l3Put, by its contract.
-/
import Derived.Test.YtkjjjnkgkgdfkaaIntsS
import Derived.Test.YtkjjjnkgkgdfkaaApp
import Derived.Test.YtkjjjnkgkgdfkaaCmp
import Derived.Test.YtkjjjnkgkgdfkaaSame
import Derived.Deep.RegionHeld3
namespace Go.Proofs.Ytkjjjnkgkgdfkaa
set_option maxRecDepth 100000
open Go.RowKit

theorem Inner.put {w : World} {B s : Nat} {vs : List Value} {zss : List (List Int)} {u : Value} {z : List Int} (h : Inner w B vs zss) (hs : s ≤ zss.length) (hu : Ints w B u z) (ha : ∀ x ∈ vs, Away x u) : Inner w B (vs.take s ++ [u] ++ vs.drop s) (zss.take s ++ [z] ++ zss.drop s) := by
  have hl := h.len
  refine ⟨by simp; omega, fun i x ys hx hy => ?_, ?_⟩
  · by_cases h1 : i < s
    · rw [List.append_assoc, List.getElem?_append_left (by rw [List.length_take]; omega), List.getElem?_take_of_lt h1] at hx hy
      exact h.row i x ys hx hy
    · by_cases h2 : i = s
      · subst h2
        rw [List.append_assoc, List.getElem?_append_right (by rw [List.length_take]; omega), List.length_take, Nat.min_eq_left (by omega)] at hx hy
        simp at hx hy
        subst hx; subst hy
        exact hu
      · rw [List.getElem?_append_right (by simp; omega)] at hx hy
        simp only [List.length_append, List.length_take, List.length_singleton] at hx hy
        rw [List.getElem?_drop] at hx hy
        rw [Nat.min_eq_left (by omega)] at hx hy
        exact h.row _ x ys hx hy
  · have ht := h.away
    rw [← List.take_append_drop s vs, List.pairwise_append] at ht
    obtain ⟨h1, h2, h3⟩ := ht
    rw [List.append_assoc, List.pairwise_append]
    refine ⟨h1, ?_, fun a ha' b hb => ?_⟩
    · rw [List.singleton_append, List.pairwise_cons]
      exact ⟨fun b hb => (ha b (List.mem_of_mem_drop hb)).symm, h2⟩
    · rw [List.singleton_append, List.mem_cons] at hb
      rcases hb with rfl | hb
      · exact ha a (List.mem_of_mem_take ha')
      · exact h3 a ha' b hb
theorem own_news {w : World} {B n : Nat} {v : Value} {vs : List Value} {zss : List (List Int)} (_h : w.ownsRow B 24 1 v n vs) (hin : Inner w B vs zss) : ∀ u ∈ vs, u.oneCell' = true := fun u hu => by
  obtain ⟨zs, hz⟩ := hin.mem hu
  obtain ⟨A, c, rfl⟩ := hz.slice
  rfl

/-- A list of rows that lies at a block's head. -/
def PutS (w : World) (B : Nat) (v : Value) (zss : List (List Int)) : Prop := IntsS w B v zss ∧ ∃ g cap, v = .slice (some ⟨g, 0, none⟩) zss.length cap
def PutEnds (w : World) (B : Nat) (zss : List (List Int)) (e : Ending) (w' : World) : Prop := ∃ v', e = .returned v' ∧ PutS w' B v' zss ∧ Below B w w' ∧ KeepI w w'

theorem Arg.drew {w : World} {B n c : Nat} {A : Option Addr} {zs : List Int} (h : Arg w B A n c zs) : Arg w.drew B A n c zs := ⟨h.reads.drew, h.under, h.le, h.cap, h.small, h.nil⟩
theorem own_shape {w : World} {B n : Nat} {e : TypeId} {v : Value} {xs : List Value} (h : w.ownsRow B e 1 v n xs) (hv : v ≠ .slice none 0 0) : ∃ g cap, v = .slice (some ⟨g, 0, none⟩) n cap ∧ B ≤ g ∧ n ≤ cap := by
  rcases h.2 with ⟨h0, _⟩ | ⟨g, cap, cur, h1, h2, _, h3, _⟩
  · exact absurd h0 hv
  · exact ⟨g, cap, h1, h2, h3⟩

set_option maxHeartbeats 1600000 in
theorem l3put_any (B : Nat) (zss : List (List Int)) (g n cap : Nat) (A : Option Addr) (m c B' : Nat) (p : List Int) (w : World) (hS : IntsS w B (.slice (some ⟨g, 0, none⟩) n cap) zss) (hp : Arg w B' A m c p) (hB : B ≤ w.heap.size)
    (hall : ∀ z ∈ zss, isP z = true) (hn : n ≤ 1048576) :
    Calls Try.prog 74 #[.slice (some ⟨g, 0, none⟩) n cap, .slice A m c] w (PutEnds w B (putL zss p)) := by
  have hl := hS.len
  have HL := hide hl
  have HALL := hide hall
  clear hl hall
  go_enter Try.func74, Try.ntmps74
  go_wp2
  go_loopw [5] (fun i wr => ∃ k : Nat, k ≤ n ∧ i = .int .i64 k ∧ Drew w wr ∧ Hid (scanL zss p n = scanL zss p k)) (fun i _ => (intOf i).toNat)
  case atStart => exact ⟨n, Nat.le_refl _, rfl, Drew.refl _, by exact rfl⟩
  case round =>
    obtain ⟨k, hk, rfl, hd, hsc⟩ := hrel
    cases k with
    | zero =>
      have hput : Hid (putL zss p = zss.take 0 ++ [p] ++ zss.drop 0) := by
        have h := unhide hsc
        rw [← unhide HL] at h
        show putL zss p = _
        unfold putL
        rw [h, scanL, if_neg (by omega)]
      have hbW := hd.below w.heap.size
      have hkw := hd.keepI
      have hp := hp.below hbW
      have hS := hS.below hbW
      have hks : 0 ≤ n := Nat.zero_le n
      clear hsc
      obtain ⟨vs, hown, hin⟩ := hS
      rw [unhide HL] at hown
      have hgl := (hown.lt g rfl).2
      have hst := ownS0 wr wr.heap.size (Nat.le_refl _)
      have hbel := (Below.refl wr.heap.size wr).alloc (Nat.le_refl _) (.cells #[] 24)
      have hrest := ((own_rest hown hks).below hbel)
      have hones : ∀ u ∈ vs.drop (0), u.oneCell' = true := fun u hu => own_news hown hin u (List.mem_of_mem_drop hu)
      have HONES := hide hones
      go_wp2_with (at_builtin; refine wpList_append_rows rfl (.tmp 34) (.tmp 37) rfl wr.heap.size wr.heap.size 0 (n) (cap) wr _ (some ⟨g, 0, none⟩) [] (vs.drop (0)) rfl rfl hst hrest (fun h => by cases h) hones (by omega) (by omega) hbel hbel.size ?_; intro v6 w6 hown6 hb6 hg6 hnil6)
      rw [Nat.zero_add, List.nil_append] at hown6
      obtain ⟨g6, cap6, rfl, hg6l, hcap6⟩ := own_shape hown6 (fun h => by cases hnil6 h)
      have hA6 := hp.below hb6
      have hst6 := own0 w6 w6.heap.size (Nat.le_refl _)
      have hbel6 := (Below.refl w6.heap.size w6).alloc (Nat.le_refl _) (.cells #[] 3)
      have hA7 := (hA6.below hbel6).drew
      have hs6 := hbel6.size
      have hown7 := own_below hown hb6
      have hin7 := hin.keepI (KeepI.of_below hb6)
      have hkw6 := hkw.trans (KeepI.of_below hb6)
      have hbw6 := (hbW.mono hB).trans (hb6.mono (Nat.le_trans hB hbW.size))
      clear hst hbel hrest hones hp hkw hin hown hg6 hnil6
      go_region_held3 (fun _ => True) (trivial)
        (first
         | ((refine step_append_arg (by rfl) (.tmp 42) (.tmp 43) (by rfl) w6.heap.size B' 0 m c w6 _ A [] p (by rfl) (by rfl) hst6 hA7 (by omega) hbel6.drew hs6 ?_); intro v7 w7 hw7 hb7 hg7; clear hg7;
            have hI7 : Ints w7 w6.heap.size v7 p := Ints.of_own hw7;
            obtain ⟨A7, c7, rfl⟩ := hI7.slice;
            have hone7 : ∀ u ∈ [Value.slice A7 p.length c7], u.oneCell' = true := (fun u hu => by (rw [List.mem_singleton] at hu; subst hu; rfl));
            have haw7 := hin7.away_new hI7.since (Nat.le_refl _);
            have hin8 := hin7.keepI (KeepI.of_below hb7);
            have hown8 := own_cut (own_below hown7 hb7) hks;
            have hrest8 := own_below hown6 hb7;
            have hkw8 := hkw6.trans (KeepI.of_below hb7);
            have hbw8 := hbw6.trans (hb7.mono (Nat.le_trans hB (Nat.le_trans hbW.size hb6.size)));
            have hsz8 : B ≤ w7.heap.size := Nat.le_trans hB (Nat.le_trans hbW.size (Nat.le_trans hb6.size hb7.size));
            have hx8 := reads_new w7 (.slice A7 p.length c7) 24;
            have hal := (Below.refl w7.heap.size w7).alloc (Nat.le_refl _) (.cells #[.slice A7 p.length c7] 24);
            clear hst6 hbel6 hA7 hs6 hown7 hown6 hin7 hkw6 hbw6 hw7 hb7)
         | ((refine step_append_rows (by rfl) (.tmp 41) (.tmp 45) (by rfl) B (w7.heap.size + 1) (0) 1 1 w _ (some ⟨w7.heap.size, 0, none⟩) (vs.take (0)) [.slice A7 p.length c7] (by rfl) (by rfl) (own_below hown8 hal) hx8 (fun h => by cases h) hone7 (by omega) (by omega) (hbw8.trans (hal.mono hsz8)) (Nat.le_trans hsz8 hal.size) ?_); intro v9 w9 hown9 hb9 hg9 hnil9;
            have hk9 := (hkw8.trans (KeepI.of_below hal)).trans (KeepI.of_grown (own_below hown8 hal) hg9);
            have hin9 := (hin8.keepI (KeepI.of_below hal)).keepI (KeepI.of_grown (own_below hown8 hal) hg9);
            have hI9 := (hI7.keepI (KeepI.of_below hal)).keepI (KeepI.of_grown (own_below hown8 hal) hg9);
            have hrest9 := (own_below hrest8 hal).kept hg9 (.inr (fun e => by (have e2 : g6 = g := by simpa [Value.ownBlock] using e); omega));
            have hsz9 := Nat.le_trans hsz8 (Nat.le_trans hal.size hg9.size);
            clear hown8 hrest8 hkw8 hbw8 hsz8 hx8 hal hin8 hI7 hone7 hg9)
         | ((refine step_append_rows (by rfl) (.tmp 46) (.tmp 47) (by rfl) B w9.heap.size (0 + 1) (n) cap6 w _ (some ⟨g6, 0, none⟩) (vs.take (0) ++ [.slice A7 p.length c7]) (vs.drop (0)) (by rfl) (by rfl) hown9 (Reads.of_own_at hrest9) (fun h => by cases h) (unhide HONES) (by omega) (by omega) hb9 hsz9 ?_); intro v10 w10 hown10 hb10 hg10 hnil10;
            have hk10 := hk9.trans (KeepI.of_grown hown9 hg10);
            have hin10 := hin9.keepI (KeepI.of_grown hown9 hg10);
            have hI10 := hI9.keepI (KeepI.of_grown hown9 hg10);
            clear hk9 hin9 hI9 hown9 hrest9))
      have hfin : PutS w10 B v10 (putL zss p) := by
        have hz := unhide HL
        have hin := hin10.put (s := 0) (by rw [hz]; exact hks) (hI10.low (Nat.le_trans hB (Nat.le_trans hbW.size hb6.size))) haw7
        have hlen : (zss.take (0) ++ [p] ++ zss.drop (0)).length = 0 + 1 + (n) := by
          simp only [List.length_append, List.length_take, List.length_drop, List.length_singleton]
          omega
        rw [unhide hput]
        obtain ⟨g10, cap10, h10, _, _⟩ := own_shape hown10 (fun h => by cases hnil9 (hnil10 h))
        exact ⟨⟨_, by rw [hlen]; exact hown10, hin⟩, g10, cap10, by rw [hlen]; exact h10⟩
      clear hown10 hin10 hI10 hnil9 hnil10 haw7
      go_wp2
      go_ret
      exact ⟨v10, rfl, hfin, hb10, hk10⟩
    | succ k =>
      obtain ⟨ad, A1, c1, z, he, hz, hcell, hI⟩ := (hS.below (hd.below _)).at_ (show k < n by omega)
      injection he with he
      subst he
      have hcell : wr.cell? ⟨g, k, none⟩ = some (.slice A1 z.length c1) := by
        rwa [show (⟨g, 0, none⟩ : Addr).add k = ⟨g, k, none⟩ by unfold Addr.add; split <;> simp_all] at hcell
      have hzP := unhide HALL z (List.mem_of_getElem? hz)
      have hAz := hI.argP hzP
      obtain ⟨b, hb⟩ : ∃ b, befL p z = b := ⟨_, rfl⟩
      have hpW := hp.below (hd.below _)
      have H1 := hide (l2bef_any A A1 m c B' z.length c1 wr.heap.size p z b hb wr hpW hAz)
      have hki : ((k + 1 : Nat) : Int) - 1 = (k : Int) := by omega
      cases b with
      | true =>
        have hnext := hide ((unhide hsc).trans (scanL_yes hz hb))
        clear hz hb hI hAz hsc hpW hS hp
        go_wp2_with fail
        refine (unhide H1).mono ?_
        rintro e w1 ⟨rfl, hd1⟩
        have hd2 := hd.trans hd1
        clear H1 hd hd1
        go_wp2
        go_roundw
        case rel => exact ⟨k, by omega, by go_num, hd2, hnext⟩
        case measure => simp [intOf]
      | false =>
        have hsc1 := (unhide hsc).trans (scanL_no hz hb)
        rw [← unhide HL] at hsc1
        obtain ⟨b2, hb2⟩ : ∃ b, decide (z = p) = b := ⟨_, rfl⟩
        have H2 := hide (fun w' (hb' : Below wr.heap.size wr w') => l2same_any A1 A z.length c1 wr.heap.size m c B' z p b2 hb2 w' ((hI.below hb').argP hzP |>.more (Nat.le_refl _) (Nat.le_refl _) |> fun h => ⟨hI.reads.below hb', hb'.size, h.le, h.cap, h.small, h.nil⟩) (hpW.below hb'))
        have hput : Hid (putL zss p = if b2 = true then zss else zss.take (k + 1) ++ [p] ++ zss.drop (k + 1)) := by
          show putL zss p = _
          unfold putL
          rw [hsc1, show k + 1 - 1 = k by omega, getD_of hz]
          cases b2 with
          | true => rw [if_pos ⟨by omega, of_decide_eq_true hb2⟩, if_pos rfl]
          | false => rw [if_neg (fun h => of_decide_eq_false hb2 h.2), if_neg (by simp)]
        clear hz hb hI hAz hsc hsc1 hb2 hpW
        go_wp2_with fail
        refine (unhide H1).mono ?_
        rintro e w1 ⟨rfl, hd1⟩
        have H3 := hide (unhide H2 w1 (hd1.below _))
        have hcell1 := (hd1.cell ⟨g, k, none⟩).trans hcell
        replace hd := hd.trans hd1
        clear H1 H2 hd1 hcell
        go_wp2_with fail
        refine (unhide H3).mono ?_
        rintro e w2 ⟨rfl, hd2⟩
        replace hd := hd.trans hd2
        have hbW := hd.below w.heap.size
        have hkw := hd.keepI
        replace hp := hp.below hbW
        replace hS := hS.below hbW
        clear H3 hd2 hcell1
        cases b2 with
        | true =>
          replace hput := hide ((unhide hput).trans (if_pos rfl))
          go_wp2
          go_ret
          rw [← unhide hput] at hS
          exact ⟨.slice (some ⟨g, 0, none⟩) n cap, rfl, ⟨hS, g, cap, by rw [hS.len]⟩, hbW.mono hB, hkw⟩
        | false =>
          replace hput := hide ((unhide hput).trans (if_neg (by simp)))
          have hcn : n ≤ cap := by
            obtain ⟨vs, hown, _⟩ := hS
            rw [unhide HL] at hown
            rcases hown.2 with ⟨hv, _⟩ | ⟨g', cap', cur, hv, _, _, h3, _⟩
            · cases hv
            · injection hv with _ _ h4; omega
          by_cases hcap : cap = k + 1
          · subst hcap
            obtain rfl : n = k + 1 := by omega
            have hbd0 : (0 : Int) ≤ (k : Int) + 1 := by omega
            have hbd1 : (k : Int) + 1 ≤ ((k + 1 : Nat) : Int) := by omega
            have hks : k + 1 ≤ k + 1 := Nat.le_refl _
            obtain ⟨vs, hown, hin⟩ := hS
            rw [unhide HL] at hown
            have hgl := (hown.lt g rfl).2
            have hst := ownS0 w2 w2.heap.size (Nat.le_refl _)
            have hbel := (Below.refl w2.heap.size w2).alloc (Nat.le_refl _) (.cells #[] 24)
            have hrest : Reads (w2.alloc (.cells #[] 24)) w2.heap.size (some ⟨g, 0, none⟩) 0 (vs.drop (k + 1)) := ⟨by rw [List.length_drop]; have := hown.1; omega, fun h => by omega⟩
            have hones : ∀ u ∈ vs.drop (k + 1), u.oneCell' = true := fun u hu => own_news hown hin u (List.mem_of_mem_drop hu)
            have HONES := hide hones
            go_wp2_with (at_builtin; refine wpList_append_rows rfl (.tmp 34) (.tmp 37) rfl w2.heap.size w2.heap.size 0 (0) (0) w2 _ (some ⟨g, 0, none⟩) [] (vs.drop (k + 1)) rfl rfl hst hrest (fun h => by cases h) hones (by omega) (by omega) hbel hbel.size ?_; intro v6 w6 hown6 hb6 hg6 hnil6)
            rw [Nat.zero_add, List.nil_append] at hown6
            obtain ⟨g6, cap6, rfl, hg6l, hcap6⟩ := own_shape hown6 (fun h => by cases hnil6 h)
            have hA6 := hp.below hb6
            have hst6 := own0 w6 w6.heap.size (Nat.le_refl _)
            have hbel6 := (Below.refl w6.heap.size w6).alloc (Nat.le_refl _) (.cells #[] 3)
            have hA7 := (hA6.below hbel6).drew
            have hs6 := hbel6.size
            have hown7 := own_below hown hb6
            have hin7 := hin.keepI (KeepI.of_below hb6)
            have hkw6 := hkw.trans (KeepI.of_below hb6)
            have hbw6 := (hbW.mono hB).trans (hb6.mono (Nat.le_trans hB hbW.size))
            clear hst hbel hrest hones hp hkw hin hown hg6 hnil6
            go_region_held3 (fun _ => True) (trivial)
              (first
               | ((refine step_append_arg (by rfl) (.tmp 42) (.tmp 43) (by rfl) w6.heap.size B' 0 m c w6 _ A [] p (by rfl) (by rfl) hst6 hA7 (by omega) hbel6.drew hs6 ?_); intro v7 w7 hw7 hb7 hg7; clear hg7;
                  have hI7 : Ints w7 w6.heap.size v7 p := Ints.of_own hw7;
                  obtain ⟨A7, c7, rfl⟩ := hI7.slice;
                  have hone7 : ∀ u ∈ [Value.slice A7 p.length c7], u.oneCell' = true := (fun u hu => by (rw [List.mem_singleton] at hu; subst hu; rfl));
                  have haw7 := hin7.away_new hI7.since (Nat.le_refl _);
                  have hin8 := hin7.keepI (KeepI.of_below hb7);
                  have hown8 := own_cut (own_below hown7 hb7) hks;
                  have hrest8 := own_below hown6 hb7;
                  have hkw8 := hkw6.trans (KeepI.of_below hb7);
                  have hbw8 := hbw6.trans (hb7.mono (Nat.le_trans hB (Nat.le_trans hbW.size hb6.size)));
                  have hsz8 : B ≤ w7.heap.size := Nat.le_trans hB (Nat.le_trans hbW.size (Nat.le_trans hb6.size hb7.size));
                  have hx8 := reads_new w7 (.slice A7 p.length c7) 24;
                  have hal := (Below.refl w7.heap.size w7).alloc (Nat.le_refl _) (.cells #[.slice A7 p.length c7] 24);
                  clear hst6 hbel6 hA7 hs6 hown7 hown6 hin7 hkw6 hbw6 hw7 hb7)
               | ((refine step_append_rows (by rfl) (.tmp 41) (.tmp 45) (by rfl) B (w7.heap.size + 1) (k + 1) 1 1 w _ (some ⟨w7.heap.size, 0, none⟩) (vs.take (k + 1)) [.slice A7 p.length c7] (by rfl) (by rfl) (own_below hown8 hal) hx8 (fun h => by cases h) hone7 (by omega) (by omega) (hbw8.trans (hal.mono hsz8)) (Nat.le_trans hsz8 hal.size) ?_); intro v9 w9 hown9 hb9 hg9 hnil9;
                  have hk9 := (hkw8.trans (KeepI.of_below hal)).trans (KeepI.of_grown (own_below hown8 hal) hg9);
                  have hin9 := (hin8.keepI (KeepI.of_below hal)).keepI (KeepI.of_grown (own_below hown8 hal) hg9);
                  have hI9 := (hI7.keepI (KeepI.of_below hal)).keepI (KeepI.of_grown (own_below hown8 hal) hg9);
                  have hrest9 := (own_below hrest8 hal).kept hg9 (.inr (fun e => by (have e2 : g6 = g := by simpa [Value.ownBlock] using e); omega));
                  have hsz9 := Nat.le_trans hsz8 (Nat.le_trans hal.size hg9.size);
                  clear hown8 hrest8 hkw8 hbw8 hsz8 hx8 hal hin8 hI7 hone7 hg9)
               | ((refine step_append_rows (by rfl) (.tmp 46) (.tmp 47) (by rfl) B w9.heap.size (k + 1 + 1) (0) cap6 w _ (some ⟨g6, 0, none⟩) (vs.take (k + 1) ++ [.slice A7 p.length c7]) (vs.drop (k + 1)) (by rfl) (by rfl) hown9 (Reads.of_own_at hrest9) (fun h => by cases h) (unhide HONES) (by omega) (by omega) hb9 hsz9 ?_); intro v10 w10 hown10 hb10 hg10 hnil10;
                  have hk10 := hk9.trans (KeepI.of_grown hown9 hg10);
                  have hin10 := hin9.keepI (KeepI.of_grown hown9 hg10);
                  have hI10 := hI9.keepI (KeepI.of_grown hown9 hg10);
                  clear hk9 hin9 hI9 hown9 hrest9))
            have hfin : PutS w10 B v10 (putL zss p) := by
              have hz := unhide HL
              have hin := hin10.put (s := k + 1) (by rw [hz]; exact hks) (hI10.low (Nat.le_trans hB (Nat.le_trans hbW.size hb6.size))) haw7
              have hlen : (zss.take (k + 1) ++ [p] ++ zss.drop (k + 1)).length = k + 1 + 1 + (0) := by
                simp only [List.length_append, List.length_take, List.length_drop, List.length_singleton]
                omega
              rw [unhide hput]
              obtain ⟨g10, cap10, h10, _, _⟩ := own_shape hown10 (fun h => by cases hnil9 (hnil10 h))
              exact ⟨⟨_, by rw [hlen]; exact hown10, hin⟩, g10, cap10, by rw [hlen]; exact h10⟩
            clear hown10 hin10 hI10 hnil9 hnil10 haw7
            go_wp2
            go_ret
            exact ⟨v10, rfl, hfin, hb10, hk10⟩
          · have hbd0 : (0 : Int) ≤ (k : Int) + 1 := by omega
            have hbd1 : (k : Int) + 1 ≤ (cap : Int) := by omega
            have hks : k + 1 ≤ n := hk
            clear hcn
            obtain ⟨vs, hown, hin⟩ := hS
            rw [unhide HL] at hown
            have hgl := (hown.lt g rfl).2
            have hst := ownS0 w2 w2.heap.size (Nat.le_refl _)
            have hbel := (Below.refl w2.heap.size w2).alloc (Nat.le_refl _) (.cells #[] 24)
            have hrest := ((own_rest hown hks).below hbel)
            have hones : ∀ u ∈ vs.drop (k + 1), u.oneCell' = true := fun u hu => own_news hown hin u (List.mem_of_mem_drop hu)
            have HONES := hide hones
            go_wp2_with (at_builtin; refine wpList_append_rows rfl (.tmp 34) (.tmp 37) rfl w2.heap.size w2.heap.size 0 (n - (k + 1)) (cap - (k + 1)) w2 _ (some ⟨g, k + 1, none⟩) [] (vs.drop (k + 1)) rfl rfl hst hrest (fun h => by cases h) hones (by omega) (by omega) hbel hbel.size ?_; intro v6 w6 hown6 hb6 hg6 hnil6)
            rw [Nat.zero_add, List.nil_append] at hown6
            obtain ⟨g6, cap6, rfl, hg6l, hcap6⟩ := own_shape hown6 (fun h => by cases hnil6 h)
            have hA6 := hp.below hb6
            have hst6 := own0 w6 w6.heap.size (Nat.le_refl _)
            have hbel6 := (Below.refl w6.heap.size w6).alloc (Nat.le_refl _) (.cells #[] 3)
            have hA7 := (hA6.below hbel6).drew
            have hs6 := hbel6.size
            have hown7 := own_below hown hb6
            have hin7 := hin.keepI (KeepI.of_below hb6)
            have hkw6 := hkw.trans (KeepI.of_below hb6)
            have hbw6 := (hbW.mono hB).trans (hb6.mono (Nat.le_trans hB hbW.size))
            clear hst hbel hrest hones hp hkw hin hown hg6 hnil6
            go_region_held3 (fun _ => True) (trivial)
              (first
               | ((refine step_append_arg (by rfl) (.tmp 42) (.tmp 43) (by rfl) w6.heap.size B' 0 m c w6 _ A [] p (by rfl) (by rfl) hst6 hA7 (by omega) hbel6.drew hs6 ?_); intro v7 w7 hw7 hb7 hg7; clear hg7;
                  have hI7 : Ints w7 w6.heap.size v7 p := Ints.of_own hw7;
                  obtain ⟨A7, c7, rfl⟩ := hI7.slice;
                  have hone7 : ∀ u ∈ [Value.slice A7 p.length c7], u.oneCell' = true := (fun u hu => by (rw [List.mem_singleton] at hu; subst hu; rfl));
                  have haw7 := hin7.away_new hI7.since (Nat.le_refl _);
                  have hin8 := hin7.keepI (KeepI.of_below hb7);
                  have hown8 := own_cut (own_below hown7 hb7) hks;
                  have hrest8 := own_below hown6 hb7;
                  have hkw8 := hkw6.trans (KeepI.of_below hb7);
                  have hbw8 := hbw6.trans (hb7.mono (Nat.le_trans hB (Nat.le_trans hbW.size hb6.size)));
                  have hsz8 : B ≤ w7.heap.size := Nat.le_trans hB (Nat.le_trans hbW.size (Nat.le_trans hb6.size hb7.size));
                  have hx8 := reads_new w7 (.slice A7 p.length c7) 24;
                  have hal := (Below.refl w7.heap.size w7).alloc (Nat.le_refl _) (.cells #[.slice A7 p.length c7] 24);
                  clear hst6 hbel6 hA7 hs6 hown7 hown6 hin7 hkw6 hbw6 hw7 hb7)
               | ((refine step_append_rows (by rfl) (.tmp 41) (.tmp 45) (by rfl) B (w7.heap.size + 1) (k + 1) 1 1 w _ (some ⟨w7.heap.size, 0, none⟩) (vs.take (k + 1)) [.slice A7 p.length c7] (by rfl) (by rfl) (own_below hown8 hal) hx8 (fun h => by cases h) hone7 (by omega) (by omega) (hbw8.trans (hal.mono hsz8)) (Nat.le_trans hsz8 hal.size) ?_); intro v9 w9 hown9 hb9 hg9 hnil9;
                  have hk9 := (hkw8.trans (KeepI.of_below hal)).trans (KeepI.of_grown (own_below hown8 hal) hg9);
                  have hin9 := (hin8.keepI (KeepI.of_below hal)).keepI (KeepI.of_grown (own_below hown8 hal) hg9);
                  have hI9 := (hI7.keepI (KeepI.of_below hal)).keepI (KeepI.of_grown (own_below hown8 hal) hg9);
                  have hrest9 := (own_below hrest8 hal).kept hg9 (.inr (fun e => by (have e2 : g6 = g := by simpa [Value.ownBlock] using e); omega));
                  have hsz9 := Nat.le_trans hsz8 (Nat.le_trans hal.size hg9.size);
                  clear hown8 hrest8 hkw8 hbw8 hsz8 hx8 hal hin8 hI7 hone7 hg9)
               | ((refine step_append_rows (by rfl) (.tmp 46) (.tmp 47) (by rfl) B w9.heap.size (k + 1 + 1) (n - (k + 1)) cap6 w _ (some ⟨g6, 0, none⟩) (vs.take (k + 1) ++ [.slice A7 p.length c7]) (vs.drop (k + 1)) (by rfl) (by rfl) hown9 (Reads.of_own_at hrest9) (fun h => by cases h) (unhide HONES) (by omega) (by omega) hb9 hsz9 ?_); intro v10 w10 hown10 hb10 hg10 hnil10;
                  have hk10 := hk9.trans (KeepI.of_grown hown9 hg10);
                  have hin10 := hin9.keepI (KeepI.of_grown hown9 hg10);
                  have hI10 := hI9.keepI (KeepI.of_grown hown9 hg10);
                  clear hk9 hin9 hI9 hown9 hrest9))
            have hfin : PutS w10 B v10 (putL zss p) := by
              have hz := unhide HL
              have hin := hin10.put (s := k + 1) (by rw [hz]; exact hks) (hI10.low (Nat.le_trans hB (Nat.le_trans hbW.size hb6.size))) haw7
              have hlen : (zss.take (k + 1) ++ [p] ++ zss.drop (k + 1)).length = k + 1 + 1 + (n - (k + 1)) := by
                simp only [List.length_append, List.length_take, List.length_drop, List.length_singleton]
                omega
              rw [unhide hput]
              obtain ⟨g10, cap10, h10, _, _⟩ := own_shape hown10 (fun h => by cases hnil9 (hnil10 h))
              exact ⟨⟨_, by rw [hlen]; exact hown10, hin⟩, g10, cap10, by rw [hlen]; exact h10⟩
            clear hown10 hin10 hI10 hnil9 hnil10 haw7
            go_wp2
            go_ret
            exact ⟨v10, rfl, hfin, hb10, hk10⟩
end Go.Proofs.Ytkjjjnkgkgdfkaa
