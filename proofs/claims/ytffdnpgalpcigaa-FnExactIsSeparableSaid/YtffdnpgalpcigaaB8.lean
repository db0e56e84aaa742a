/-
  Words and contracts that the laws lean on, bundled: Put, PutG, RootS, Sort, Compact, OrdA, RootI, Sep.
-/
import Derived.Test.YtffdnpgalpcigaaB2
import Derived.Test.YtffdnpgalpcigaaB7
import Derived.Test.YtffdnpgalpcigaaB3
import Derived.Deep.RegionHeld3
import Derived.Maps.AppendAt
import Derived.Test.YtffdnpgalpcigaaB5
import Derived.Test.YtffdnpgalpcigaaShelfF
import Derived.Lib.SliceRun
import Derived.Laws.BitsLemmas
import Derived.Test.YtffdnpgalpcigaaB4

/-
  spec.l3Put, by its contract.
-/

namespace Go.Proofs.Ytffdnpgalpcigaa
set_option maxRecDepth 100000
open Go.RowKit

theorem Inner.put {w : World} {B s : Nat} {vs : List Value} {zss : List (List Int)} {u : Value} {z : List Int} (h : Inner w B vs zss) (hs : s ≤ zss.length) (hu : Ints w B u z) (ha : ∀ x ∈ vs, Away x u) : Inner w B (vs.take s ++ [u] ++ vs.drop s) (zss.take s ++ [z] ++ zss.drop s) := by
  have hl := h.len
  refine ⟨by simp; omega, fun i x ys hx hy => ?_, ?_⟩
  · by_cases h1 : i < s
    · rw [List.append_assoc, List.getElem?_append_left (by rw [List.length_take]; omega), List.getElem?_take_of_lt h1] at hx hy
      exact h.row i x ys hx hy
    · by_cases h2 : i = s
      · subst h2
        rw [List.append_assoc, List.getElem?_append_right (by rw [List.length_take]; omega), List.length_take, Nat.min_eq_left (by omega)] at hx hy
        simp at hx hy
        subst hx; subst hy
        exact hu
      · rw [List.getElem?_append_right (by simp; omega)] at hx hy
        simp only [List.length_append, List.length_take, List.length_singleton] at hx hy
        rw [List.getElem?_drop] at hx hy
        rw [Nat.min_eq_left (by omega)] at hx hy
        exact h.row _ x ys hx hy
  · have ht := h.away
    rw [← List.take_append_drop s vs, List.pairwise_append] at ht
    obtain ⟨h1, h2, h3⟩ := ht
    rw [List.append_assoc, List.pairwise_append]
    refine ⟨h1, ?_, fun a ha' b hb => ?_⟩
    · rw [List.singleton_append, List.pairwise_cons]
      exact ⟨fun b hb => (ha b (List.mem_of_mem_drop hb)).symm, h2⟩
    · rw [List.singleton_append, List.mem_cons] at hb
      rcases hb with rfl | hb
      · exact ha a (List.mem_of_mem_take ha')
      · exact h3 a ha' b hb
theorem own_news {w : World} {B n : Nat} {v : Value} {vs : List Value} {zss : List (List Int)} (_h : w.ownsRow B 22 1 v n vs) (hin : Inner w B vs zss) : ∀ u ∈ vs, u.oneCell' = true := fun u hu => by
  obtain ⟨zs, hz⟩ := hin.mem hu
  obtain ⟨A, c, rfl⟩ := hz.slice
  rfl

/-- A list of rows that lies at a block's head. -/
def PutS (w : World) (B : Nat) (v : Value) (zss : List (List Int)) : Prop := IntsS w B v zss ∧ ∃ g cap, v = .slice (some ⟨g, 0, none⟩) zss.length cap
def PutEnds (w : World) (B : Nat) (zss : List (List Int)) (e : Ending) (w' : World) : Prop := ∃ v', e = .returned v' ∧ PutS w' B v' zss ∧ Below B w w' ∧ KeepI w w'

theorem Arg.drew {w : World} {B n c : Nat} {A : Option Addr} {zs : List Int} (h : Arg w B A n c zs) : Arg w.drew B A n c zs := ⟨h.reads.drew, h.under, h.le, h.cap, h.small, h.nil⟩
theorem own_shape {w : World} {B n : Nat} {e : TypeId} {v : Value} {xs : List Value} (h : w.ownsRow B e 1 v n xs) (hv : v ≠ .slice none 0 0) : ∃ g cap, v = .slice (some ⟨g, 0, none⟩) n cap ∧ B ≤ g ∧ n ≤ cap := by
  rcases h.2 with ⟨h0, _⟩ | ⟨g, cap, cur, h1, h2, _, h3, _⟩
  · exact absurd h0 hv
  · exact ⟨g, cap, h1, h2, h3⟩

set_option maxHeartbeats 1600000 in
theorem l3put_any (B : Nat) (zss : List (List Int)) (g n cap : Nat) (A : Option Addr) (m c B' : Nat) (p : List Int) (w : World) (hS : IntsS w B (.slice (some ⟨g, 0, none⟩) n cap) zss) (hp : Arg w B' A m c p) (hB : B ≤ w.heap.size)
    (hall : ∀ z ∈ zss, isP z = true) (hn : n ≤ 1048576) :
    Calls Try.prog 72 #[.slice (some ⟨g, 0, none⟩) n cap, .slice A m c] w (PutEnds w B (putL zss p)) := by
  have hl := hS.len
  have HL := hide hl
  have HALL := hide hall
  clear hl hall
  go_enter Try.func72, Try.ntmps72
  go_wp2
  go_loopw [5] (fun i wr => ∃ k : Nat, k ≤ n ∧ i = .int .i64 k ∧ Drew w wr ∧ Hid (scanL zss p n = scanL zss p k)) (fun i _ => (intOf i).toNat)
  case atStart => exact ⟨n, Nat.le_refl _, rfl, Drew.refl _, by exact rfl⟩
  case round =>
    obtain ⟨k, hk, rfl, hd, hsc⟩ := hrel
    cases k with
    | zero =>
      have hput : Hid (putL zss p = zss.take 0 ++ [p] ++ zss.drop 0) := by
        have h := unhide hsc
        rw [← unhide HL] at h
        show putL zss p = _
        unfold putL
        rw [h, scanL, if_neg (by omega)]
      have hbW := hd.below w.heap.size
      have hkw := hd.keepI
      have hp := hp.below hbW
      have hS := hS.below hbW
      have hks : 0 ≤ n := Nat.zero_le n
      clear hsc
      obtain ⟨vs, hown, hin⟩ := hS
      rw [unhide HL] at hown
      have hgl := (hown.lt g rfl).2
      have hst := ownS0 wr wr.heap.size (Nat.le_refl _)
      have hbel := (Below.refl wr.heap.size wr).alloc (Nat.le_refl _) (.cells #[] 22)
      have hrest := ((own_rest hown hks).below hbel)
      have hones : ∀ u ∈ vs.drop (0), u.oneCell' = true := fun u hu => own_news hown hin u (List.mem_of_mem_drop hu)
      have HONES := hide hones
      go_wp2_with (at_builtin; refine wpList_append_rows rfl (.tmp 34) (.tmp 37) rfl wr.heap.size wr.heap.size 0 (n) (cap) wr _ (some ⟨g, 0, none⟩) [] (vs.drop (0)) rfl rfl hst hrest (fun h => by cases h) hones (by omega) (by omega) hbel hbel.size ?_; intro v6 w6 hown6 hb6 hg6 hnil6)
      rw [Nat.zero_add, List.nil_append] at hown6
      obtain ⟨g6, cap6, rfl, hg6l, hcap6⟩ := own_shape hown6 (fun h => by cases hnil6 h)
      have hA6 := hp.below hb6
      have hst6 := own0 w6 w6.heap.size (Nat.le_refl _)
      have hbel6 := (Below.refl w6.heap.size w6).alloc (Nat.le_refl _) (.cells #[] 3)
      have hA7 := (hA6.below hbel6).drew
      have hs6 := hbel6.size
      have hown7 := own_below hown hb6
      have hin7 := hin.keepI (KeepI.of_below hb6)
      have hkw6 := hkw.trans (KeepI.of_below hb6)
      have hbw6 := (hbW.mono hB).trans (hb6.mono (Nat.le_trans hB hbW.size))
      clear hst hbel hrest hones hp hkw hin hown hg6 hnil6
      go_region_held3 (fun _ => True) (trivial)
        (first
         | ((refine step_append_arg (by rfl) (.tmp 42) (.tmp 43) (by rfl) w6.heap.size B' 0 m c w6 _ A [] p (by rfl) (by rfl) hst6 hA7 (by omega) hbel6.drew hs6 ?_); intro v7 w7 hw7 hb7 hg7; clear hg7;
            have hI7 : Ints w7 w6.heap.size v7 p := Ints.of_own hw7;
            obtain ⟨A7, c7, rfl⟩ := hI7.slice;
            have hone7 : ∀ u ∈ [Value.slice A7 p.length c7], u.oneCell' = true := (fun u hu => by (rw [List.mem_singleton] at hu; subst hu; rfl));
            have haw7 := hin7.away_new hI7.since (Nat.le_refl _);
            have hin8 := hin7.keepI (KeepI.of_below hb7);
            have hown8 := own_cut (own_below hown7 hb7) hks;
            have hrest8 := own_below hown6 hb7;
            have hkw8 := hkw6.trans (KeepI.of_below hb7);
            have hbw8 := hbw6.trans (hb7.mono (Nat.le_trans hB (Nat.le_trans hbW.size hb6.size)));
            have hsz8 : B ≤ w7.heap.size := Nat.le_trans hB (Nat.le_trans hbW.size (Nat.le_trans hb6.size hb7.size));
            have hx8 := reads_new w7 (.slice A7 p.length c7) 22;
            have hal := (Below.refl w7.heap.size w7).alloc (Nat.le_refl _) (.cells #[.slice A7 p.length c7] 22);
            clear hst6 hbel6 hA7 hs6 hown7 hown6 hin7 hkw6 hbw6 hw7 hb7)
         | ((refine step_append_rows (by rfl) (.tmp 41) (.tmp 45) (by rfl) B (w7.heap.size + 1) (0) 1 1 w _ (some ⟨w7.heap.size, 0, none⟩) (vs.take (0)) [.slice A7 p.length c7] (by rfl) (by rfl) (own_below hown8 hal) hx8 (fun h => by cases h) hone7 (by omega) (by omega) (hbw8.trans (hal.mono hsz8)) (Nat.le_trans hsz8 hal.size) ?_); intro v9 w9 hown9 hb9 hg9 hnil9;
            have hk9 := (hkw8.trans (KeepI.of_below hal)).trans (KeepI.of_grown (own_below hown8 hal) hg9);
            have hin9 := (hin8.keepI (KeepI.of_below hal)).keepI (KeepI.of_grown (own_below hown8 hal) hg9);
            have hI9 := (hI7.keepI (KeepI.of_below hal)).keepI (KeepI.of_grown (own_below hown8 hal) hg9);
            have hrest9 := (own_below hrest8 hal).kept hg9 (.inr (fun e => by (have e2 : g6 = g := by simpa [Value.ownBlock] using e); omega));
            have hsz9 := Nat.le_trans hsz8 (Nat.le_trans hal.size hg9.size);
            clear hown8 hrest8 hkw8 hbw8 hsz8 hx8 hal hin8 hI7 hone7 hg9)
         | ((refine step_append_rows (by rfl) (.tmp 46) (.tmp 47) (by rfl) B w9.heap.size (0 + 1) (n) cap6 w _ (some ⟨g6, 0, none⟩) (vs.take (0) ++ [.slice A7 p.length c7]) (vs.drop (0)) (by rfl) (by rfl) hown9 (Reads.of_own_at hrest9) (fun h => by cases h) (unhide HONES) (by omega) (by omega) hb9 hsz9 ?_); intro v10 w10 hown10 hb10 hg10 hnil10;
            have hk10 := hk9.trans (KeepI.of_grown hown9 hg10);
            have hin10 := hin9.keepI (KeepI.of_grown hown9 hg10);
            have hI10 := hI9.keepI (KeepI.of_grown hown9 hg10);
            clear hk9 hin9 hI9 hown9 hrest9))
      have hfin : PutS w10 B v10 (putL zss p) := by
        have hz := unhide HL
        have hin := hin10.put (s := 0) (by rw [hz]; exact hks) (hI10.low (Nat.le_trans hB (Nat.le_trans hbW.size hb6.size))) haw7
        have hlen : (zss.take (0) ++ [p] ++ zss.drop (0)).length = 0 + 1 + (n) := by
          simp only [List.length_append, List.length_take, List.length_drop, List.length_singleton]
          omega
        rw [unhide hput]
        obtain ⟨g10, cap10, h10, _, _⟩ := own_shape hown10 (fun h => by cases hnil9 (hnil10 h))
        exact ⟨⟨_, by rw [hlen]; exact hown10, hin⟩, g10, cap10, by rw [hlen]; exact h10⟩
      clear hown10 hin10 hI10 hnil9 hnil10 haw7
      go_wp2
      go_ret
      exact ⟨v10, rfl, hfin, hb10, hk10⟩
    | succ k =>
      obtain ⟨ad, A1, c1, z, he, hz, hcell, hI⟩ := (hS.below (hd.below _)).at_ (show k < n by omega)
      injection he with he
      subst he
      have hcell : wr.cell? ⟨g, k, none⟩ = some (.slice A1 z.length c1) := by
        rwa [show (⟨g, 0, none⟩ : Addr).add k = ⟨g, k, none⟩ by unfold Addr.add; split <;> simp_all] at hcell
      have hzP := unhide HALL z (List.mem_of_getElem? hz)
      have hAz := hI.argP hzP
      obtain ⟨b, hb⟩ : ∃ b, befL p z = b := ⟨_, rfl⟩
      have hpW := hp.below (hd.below _)
      have H1 := hide (l2bef_any A A1 m c B' z.length c1 wr.heap.size p z b hb wr hpW hAz)
      have hki : ((k + 1 : Nat) : Int) - 1 = (k : Int) := by omega
      cases b with
      | true =>
        have hnext := hide ((unhide hsc).trans (scanL_yes hz hb))
        clear hz hb hI hAz hsc hpW hS hp
        go_wp2_with fail
        refine (unhide H1).mono ?_
        rintro e w1 ⟨rfl, hd1⟩
        have hd2 := hd.trans hd1
        clear H1 hd hd1
        go_wp2
        go_roundw
        case rel => exact ⟨k, by omega, by go_num, hd2, hnext⟩
        case measure => simp [intOf]
      | false =>
        have hsc1 := (unhide hsc).trans (scanL_no hz hb)
        rw [← unhide HL] at hsc1
        obtain ⟨b2, hb2⟩ : ∃ b, decide (z = p) = b := ⟨_, rfl⟩
        have H2 := hide (fun w' (hb' : Below wr.heap.size wr w') => l2same_any A1 A z.length c1 wr.heap.size m c B' z p b2 hb2 w' ((hI.below hb').argP hzP |>.more (Nat.le_refl _) (Nat.le_refl _) |> fun h => ⟨hI.reads.below hb', hb'.size, h.le, h.cap, h.small, h.nil⟩) (hpW.below hb'))
        have hput : Hid (putL zss p = if b2 = true then zss else zss.take (k + 1) ++ [p] ++ zss.drop (k + 1)) := by
          show putL zss p = _
          unfold putL
          rw [hsc1, show k + 1 - 1 = k by omega, getD_of hz]
          cases b2 with
          | true => rw [if_pos ⟨by omega, of_decide_eq_true hb2⟩, if_pos rfl]
          | false => rw [if_neg (fun h => of_decide_eq_false hb2 h.2), if_neg (by simp)]
        clear hz hb hI hAz hsc hsc1 hb2 hpW
        go_wp2_with fail
        refine (unhide H1).mono ?_
        rintro e w1 ⟨rfl, hd1⟩
        have H3 := hide (unhide H2 w1 (hd1.below _))
        have hcell1 := (hd1.cell ⟨g, k, none⟩).trans hcell
        replace hd := hd.trans hd1
        clear H1 H2 hd1 hcell
        go_wp2_with fail
        refine (unhide H3).mono ?_
        rintro e w2 ⟨rfl, hd2⟩
        replace hd := hd.trans hd2
        have hbW := hd.below w.heap.size
        have hkw := hd.keepI
        replace hp := hp.below hbW
        replace hS := hS.below hbW
        clear H3 hd2 hcell1
        cases b2 with
        | true =>
          replace hput := hide ((unhide hput).trans (if_pos rfl))
          go_wp2
          go_ret
          rw [← unhide hput] at hS
          exact ⟨.slice (some ⟨g, 0, none⟩) n cap, rfl, ⟨hS, g, cap, by rw [hS.len]⟩, hbW.mono hB, hkw⟩
        | false =>
          replace hput := hide ((unhide hput).trans (if_neg (by simp)))
          have hcn : n ≤ cap := by
            obtain ⟨vs, hown, _⟩ := hS
            rw [unhide HL] at hown
            rcases hown.2 with ⟨hv, _⟩ | ⟨g', cap', cur, hv, _, _, h3, _⟩
            · cases hv
            · injection hv with _ _ h4; omega
          by_cases hcap : cap = k + 1
          · subst hcap
            obtain rfl : n = k + 1 := by omega
            have hbd0 : (0 : Int) ≤ (k : Int) + 1 := by omega
            have hbd1 : (k : Int) + 1 ≤ ((k + 1 : Nat) : Int) := by omega
            have hks : k + 1 ≤ k + 1 := Nat.le_refl _
            obtain ⟨vs, hown, hin⟩ := hS
            rw [unhide HL] at hown
            have hgl := (hown.lt g rfl).2
            have hst := ownS0 w2 w2.heap.size (Nat.le_refl _)
            have hbel := (Below.refl w2.heap.size w2).alloc (Nat.le_refl _) (.cells #[] 22)
            have hrest : Reads (w2.alloc (.cells #[] 22)) w2.heap.size (some ⟨g, 0, none⟩) 0 (vs.drop (k + 1)) := ⟨by rw [List.length_drop]; have := hown.1; omega, fun h => by omega⟩
            have hones : ∀ u ∈ vs.drop (k + 1), u.oneCell' = true := fun u hu => own_news hown hin u (List.mem_of_mem_drop hu)
            have HONES := hide hones
            go_wp2_with (at_builtin; refine wpList_append_rows rfl (.tmp 34) (.tmp 37) rfl w2.heap.size w2.heap.size 0 (0) (0) w2 _ (some ⟨g, 0, none⟩) [] (vs.drop (k + 1)) rfl rfl hst hrest (fun h => by cases h) hones (by omega) (by omega) hbel hbel.size ?_; intro v6 w6 hown6 hb6 hg6 hnil6)
            rw [Nat.zero_add, List.nil_append] at hown6
            obtain ⟨g6, cap6, rfl, hg6l, hcap6⟩ := own_shape hown6 (fun h => by cases hnil6 h)
            have hA6 := hp.below hb6
            have hst6 := own0 w6 w6.heap.size (Nat.le_refl _)
            have hbel6 := (Below.refl w6.heap.size w6).alloc (Nat.le_refl _) (.cells #[] 3)
            have hA7 := (hA6.below hbel6).drew
            have hs6 := hbel6.size
            have hown7 := own_below hown hb6
            have hin7 := hin.keepI (KeepI.of_below hb6)
            have hkw6 := hkw.trans (KeepI.of_below hb6)
            have hbw6 := (hbW.mono hB).trans (hb6.mono (Nat.le_trans hB hbW.size))
            clear hst hbel hrest hones hp hkw hin hown hg6 hnil6
            go_region_held3 (fun _ => True) (trivial)
              (first
               | ((refine step_append_arg (by rfl) (.tmp 42) (.tmp 43) (by rfl) w6.heap.size B' 0 m c w6 _ A [] p (by rfl) (by rfl) hst6 hA7 (by omega) hbel6.drew hs6 ?_); intro v7 w7 hw7 hb7 hg7; clear hg7;
                  have hI7 : Ints w7 w6.heap.size v7 p := Ints.of_own hw7;
                  obtain ⟨A7, c7, rfl⟩ := hI7.slice;
                  have hone7 : ∀ u ∈ [Value.slice A7 p.length c7], u.oneCell' = true := (fun u hu => by (rw [List.mem_singleton] at hu; subst hu; rfl));
                  have haw7 := hin7.away_new hI7.since (Nat.le_refl _);
                  have hin8 := hin7.keepI (KeepI.of_below hb7);
                  have hown8 := own_cut (own_below hown7 hb7) hks;
                  have hrest8 := own_below hown6 hb7;
                  have hkw8 := hkw6.trans (KeepI.of_below hb7);
                  have hbw8 := hbw6.trans (hb7.mono (Nat.le_trans hB (Nat.le_trans hbW.size hb6.size)));
                  have hsz8 : B ≤ w7.heap.size := Nat.le_trans hB (Nat.le_trans hbW.size (Nat.le_trans hb6.size hb7.size));
                  have hx8 := reads_new w7 (.slice A7 p.length c7) 22;
                  have hal := (Below.refl w7.heap.size w7).alloc (Nat.le_refl _) (.cells #[.slice A7 p.length c7] 22);
                  clear hst6 hbel6 hA7 hs6 hown7 hown6 hin7 hkw6 hbw6 hw7 hb7)
               | ((refine step_append_rows (by rfl) (.tmp 41) (.tmp 45) (by rfl) B (w7.heap.size + 1) (k + 1) 1 1 w _ (some ⟨w7.heap.size, 0, none⟩) (vs.take (k + 1)) [.slice A7 p.length c7] (by rfl) (by rfl) (own_below hown8 hal) hx8 (fun h => by cases h) hone7 (by omega) (by omega) (hbw8.trans (hal.mono hsz8)) (Nat.le_trans hsz8 hal.size) ?_); intro v9 w9 hown9 hb9 hg9 hnil9;
                  have hk9 := (hkw8.trans (KeepI.of_below hal)).trans (KeepI.of_grown (own_below hown8 hal) hg9);
                  have hin9 := (hin8.keepI (KeepI.of_below hal)).keepI (KeepI.of_grown (own_below hown8 hal) hg9);
                  have hI9 := (hI7.keepI (KeepI.of_below hal)).keepI (KeepI.of_grown (own_below hown8 hal) hg9);
                  have hrest9 := (own_below hrest8 hal).kept hg9 (.inr (fun e => by (have e2 : g6 = g := by simpa [Value.ownBlock] using e); omega));
                  have hsz9 := Nat.le_trans hsz8 (Nat.le_trans hal.size hg9.size);
                  clear hown8 hrest8 hkw8 hbw8 hsz8 hx8 hal hin8 hI7 hone7 hg9)
               | ((refine step_append_rows (by rfl) (.tmp 46) (.tmp 47) (by rfl) B w9.heap.size (k + 1 + 1) (0) cap6 w _ (some ⟨g6, 0, none⟩) (vs.take (k + 1) ++ [.slice A7 p.length c7]) (vs.drop (k + 1)) (by rfl) (by rfl) hown9 (Reads.of_own_at hrest9) (fun h => by cases h) (unhide HONES) (by omega) (by omega) hb9 hsz9 ?_); intro v10 w10 hown10 hb10 hg10 hnil10;
                  have hk10 := hk9.trans (KeepI.of_grown hown9 hg10);
                  have hin10 := hin9.keepI (KeepI.of_grown hown9 hg10);
                  have hI10 := hI9.keepI (KeepI.of_grown hown9 hg10);
                  clear hk9 hin9 hI9 hown9 hrest9))
            have hfin : PutS w10 B v10 (putL zss p) := by
              have hz := unhide HL
              have hin := hin10.put (s := k + 1) (by rw [hz]; exact hks) (hI10.low (Nat.le_trans hB (Nat.le_trans hbW.size hb6.size))) haw7
              have hlen : (zss.take (k + 1) ++ [p] ++ zss.drop (k + 1)).length = k + 1 + 1 + (0) := by
                simp only [List.length_append, List.length_take, List.length_drop, List.length_singleton]
                omega
              rw [unhide hput]
              obtain ⟨g10, cap10, h10, _, _⟩ := own_shape hown10 (fun h => by cases hnil9 (hnil10 h))
              exact ⟨⟨_, by rw [hlen]; exact hown10, hin⟩, g10, cap10, by rw [hlen]; exact h10⟩
            clear hown10 hin10 hI10 hnil9 hnil10 haw7
            go_wp2
            go_ret
            exact ⟨v10, rfl, hfin, hb10, hk10⟩
          · have hbd0 : (0 : Int) ≤ (k : Int) + 1 := by omega
            have hbd1 : (k : Int) + 1 ≤ (cap : Int) := by omega
            have hks : k + 1 ≤ n := hk
            clear hcn
            obtain ⟨vs, hown, hin⟩ := hS
            rw [unhide HL] at hown
            have hgl := (hown.lt g rfl).2
            have hst := ownS0 w2 w2.heap.size (Nat.le_refl _)
            have hbel := (Below.refl w2.heap.size w2).alloc (Nat.le_refl _) (.cells #[] 22)
            have hrest := ((own_rest hown hks).below hbel)
            have hones : ∀ u ∈ vs.drop (k + 1), u.oneCell' = true := fun u hu => own_news hown hin u (List.mem_of_mem_drop hu)
            have HONES := hide hones
            go_wp2_with (at_builtin; refine wpList_append_rows rfl (.tmp 34) (.tmp 37) rfl w2.heap.size w2.heap.size 0 (n - (k + 1)) (cap - (k + 1)) w2 _ (some ⟨g, k + 1, none⟩) [] (vs.drop (k + 1)) rfl rfl hst hrest (fun h => by cases h) hones (by omega) (by omega) hbel hbel.size ?_; intro v6 w6 hown6 hb6 hg6 hnil6)
            rw [Nat.zero_add, List.nil_append] at hown6
            obtain ⟨g6, cap6, rfl, hg6l, hcap6⟩ := own_shape hown6 (fun h => by cases hnil6 h)
            have hA6 := hp.below hb6
            have hst6 := own0 w6 w6.heap.size (Nat.le_refl _)
            have hbel6 := (Below.refl w6.heap.size w6).alloc (Nat.le_refl _) (.cells #[] 3)
            have hA7 := (hA6.below hbel6).drew
            have hs6 := hbel6.size
            have hown7 := own_below hown hb6
            have hin7 := hin.keepI (KeepI.of_below hb6)
            have hkw6 := hkw.trans (KeepI.of_below hb6)
            have hbw6 := (hbW.mono hB).trans (hb6.mono (Nat.le_trans hB hbW.size))
            clear hst hbel hrest hones hp hkw hin hown hg6 hnil6
            go_region_held3 (fun _ => True) (trivial)
              (first
               | ((refine step_append_arg (by rfl) (.tmp 42) (.tmp 43) (by rfl) w6.heap.size B' 0 m c w6 _ A [] p (by rfl) (by rfl) hst6 hA7 (by omega) hbel6.drew hs6 ?_); intro v7 w7 hw7 hb7 hg7; clear hg7;
                  have hI7 : Ints w7 w6.heap.size v7 p := Ints.of_own hw7;
                  obtain ⟨A7, c7, rfl⟩ := hI7.slice;
                  have hone7 : ∀ u ∈ [Value.slice A7 p.length c7], u.oneCell' = true := (fun u hu => by (rw [List.mem_singleton] at hu; subst hu; rfl));
                  have haw7 := hin7.away_new hI7.since (Nat.le_refl _);
                  have hin8 := hin7.keepI (KeepI.of_below hb7);
                  have hown8 := own_cut (own_below hown7 hb7) hks;
                  have hrest8 := own_below hown6 hb7;
                  have hkw8 := hkw6.trans (KeepI.of_below hb7);
                  have hbw8 := hbw6.trans (hb7.mono (Nat.le_trans hB (Nat.le_trans hbW.size hb6.size)));
                  have hsz8 : B ≤ w7.heap.size := Nat.le_trans hB (Nat.le_trans hbW.size (Nat.le_trans hb6.size hb7.size));
                  have hx8 := reads_new w7 (.slice A7 p.length c7) 22;
                  have hal := (Below.refl w7.heap.size w7).alloc (Nat.le_refl _) (.cells #[.slice A7 p.length c7] 22);
                  clear hst6 hbel6 hA7 hs6 hown7 hown6 hin7 hkw6 hbw6 hw7 hb7)
               | ((refine step_append_rows (by rfl) (.tmp 41) (.tmp 45) (by rfl) B (w7.heap.size + 1) (k + 1) 1 1 w _ (some ⟨w7.heap.size, 0, none⟩) (vs.take (k + 1)) [.slice A7 p.length c7] (by rfl) (by rfl) (own_below hown8 hal) hx8 (fun h => by cases h) hone7 (by omega) (by omega) (hbw8.trans (hal.mono hsz8)) (Nat.le_trans hsz8 hal.size) ?_); intro v9 w9 hown9 hb9 hg9 hnil9;
                  have hk9 := (hkw8.trans (KeepI.of_below hal)).trans (KeepI.of_grown (own_below hown8 hal) hg9);
                  have hin9 := (hin8.keepI (KeepI.of_below hal)).keepI (KeepI.of_grown (own_below hown8 hal) hg9);
                  have hI9 := (hI7.keepI (KeepI.of_below hal)).keepI (KeepI.of_grown (own_below hown8 hal) hg9);
                  have hrest9 := (own_below hrest8 hal).kept hg9 (.inr (fun e => by (have e2 : g6 = g := by simpa [Value.ownBlock] using e); omega));
                  have hsz9 := Nat.le_trans hsz8 (Nat.le_trans hal.size hg9.size);
                  clear hown8 hrest8 hkw8 hbw8 hsz8 hx8 hal hin8 hI7 hone7 hg9)
               | ((refine step_append_rows (by rfl) (.tmp 46) (.tmp 47) (by rfl) B w9.heap.size (k + 1 + 1) (n - (k + 1)) cap6 w _ (some ⟨g6, 0, none⟩) (vs.take (k + 1) ++ [.slice A7 p.length c7]) (vs.drop (k + 1)) (by rfl) (by rfl) hown9 (Reads.of_own_at hrest9) (fun h => by cases h) (unhide HONES) (by omega) (by omega) hb9 hsz9 ?_); intro v10 w10 hown10 hb10 hg10 hnil10;
                  have hk10 := hk9.trans (KeepI.of_grown hown9 hg10);
                  have hin10 := hin9.keepI (KeepI.of_grown hown9 hg10);
                  have hI10 := hI9.keepI (KeepI.of_grown hown9 hg10);
                  clear hk9 hin9 hI9 hown9 hrest9))
            have hfin : PutS w10 B v10 (putL zss p) := by
              have hz := unhide HL
              have hin := hin10.put (s := k + 1) (by rw [hz]; exact hks) (hI10.low (Nat.le_trans hB (Nat.le_trans hbW.size hb6.size))) haw7
              have hlen : (zss.take (k + 1) ++ [p] ++ zss.drop (k + 1)).length = k + 1 + 1 + (n - (k + 1)) := by
                simp only [List.length_append, List.length_take, List.length_drop, List.length_singleton]
                omega
              rw [unhide hput]
              obtain ⟨g10, cap10, h10, _, _⟩ := own_shape hown10 (fun h => by cases hnil9 (hnil10 h))
              exact ⟨⟨_, by rw [hlen]; exact hown10, hin⟩, g10, cap10, by rw [hlen]; exact h10⟩
            clear hown10 hin10 hI10 hnil9 hnil10 haw7
            go_wp2
            go_ret
            exact ⟨v10, rfl, hfin, hb10, hk10⟩
end Go.Proofs.Ytffdnpgalpcigaa


/-
  spec.l3Put, by its contract: of the old blocks the list's own alone has turned.
-/

namespace Go.Proofs.Ytffdnpgalpcigaa
set_option maxRecDepth 100000
open Go.RowKit

/-- Of the old blocks none but g has turned. -/
structure KG (g : Nat) (w w' : World) : Prop where
  keep : KeepI w w'
  gr : w.grownBy w' (some g)
theorem KG.more {g : Nat} {w a b : World} (h : KG g w a) (hb : Below a.heap.size a b) : KG g w b := ⟨h.keep.trans (KeepI.of_below hb), grown_then h.gr (grown_of_below hb _)⟩
theorem KG.grown {g : Nat} {w a b : World} {B n : Nat} {v : Value} {xs : List Value} (h : KG g w a) (hown : a.ownsRow B 22 1 v n xs) (hg : a.grownBy b v.ownBlock) (hv : v.ownBlock = some g ∨ ∃ k, v.ownBlock = some k ∧ w.heap.size ≤ k) : KG g w b :=
  ⟨h.keep.trans (KeepI.of_grown hown hg), ⟨hg.os.trans h.gr.os, hg.tape.trans h.gr.tape, hg.output.trans h.gr.output, Nat.le_trans h.gr.size hg.size, fun i hi hne => (hg.block i (Nat.lt_of_lt_of_le hi h.gr.size) (fun e => by
    rcases hv with hv | ⟨k, hv, hk⟩
    · exact hne (e.trans hv)
    · rw [hv] at e
      injection e with e
      omega)).trans (h.gr.block i hi hne)⟩⟩
theorem step_append_rows_at {ops : Array Oper} {o : Oper} {a : Act} {W : World} {K : Act → World → Prop} {Q : Exit → Act → World → Prop} {E : Prop} (hgd : o.guard = none) (s x : Operand)
    (ho : o.op = .call { callee := .builtin .append, args := #[s, x], argTypes := #[23, 23] })
    (base B m n c : Nat) (w0 : World) (v : Value) (ad : Addr) (xs news : List Value) (hs : a.eval s = v) (hx : a.eval x = .slice (some ad) n c) (hown : W.ownsRow base 22 1 v m xs) (hr : Reads W B (some ad) n news) (h1 : ∀ u ∈ news, u.oneCell' = true)
    (hm : m ≤ 1099511627776) (hn : n ≤ 1099511627776) (hb : Below base w0 W) (hbase : base ≤ W.heap.size)
    (hK : ∀ v' w', w'.ownsRow base 22 1 v' (m + n) (xs ++ news) → Below base w0 w' → W.grownBy w' v.ownBlock → (v' = .slice none 0 0 → v = .slice none 0 0) → (v'.ownBlock = v.ownBlock ∨ v'.ownBlock = some W.heap.size) → K (a.put o.dst v') w') :
    if Region.wanted o (yielded ops a.tmps) = true then Oper.wp Try.prog o a W K Q else E := by
  have hw : Region.wanted o (yielded ops a.tmps) = true := by simp [Region.wanted, hgd]
  rw [if_pos hw]
  obtain ⟨i0, hi, hz0, hz1, hz2⟩ := info_parts rowsInfo1
  obtain ⟨v', w', hrun, h2, h3, h4, h5⟩ := run_append_own_at (P := Try.prog) W base 23 o.type 22 i0 (.slice none 0 0) 1 24 Try.underlying23 hi hz0 hz1 hz2 rfl (by decide) v m xs hown ad n c news (by rw [hr.1]; omega) (fun j u hu => by
    have hj : j < n := by have := (List.getElem?_eq_some_iff.1 hu).1; have := hr.1; omega
    obtain ⟨ad', he, _, hc⟩ := hr.2 (by omega)
    injection he with he
    subst he
    exact hc j u hu) h1 (by unfold maxLen; omega) (by omega) hbase
  unfold Oper.wp execOp
  simp only [ho, resolve, invoke, builtin, Sem.run_bind, Sem.run_pure, Result.andThen_ok, List.map_toArray, List.map_cons, List.map_nil, hs, hx, hrun]
  exact hK _ _ h2 (hb.grown h3 hbase (fun k hk => (hown.lt k hk).1)) h3 (fun e => (h4.1 e).1) h5
def PutEndsG (w : World) (B g : Nat) (zss : List (List Int)) (e : Ending) (w' : World) : Prop := ∃ v', e = .returned v' ∧ PutS w' B v' zss ∧ Below B w w' ∧ KG g w w' ∧ (v'.ownBlock = some g ∨ ∃ k, v'.ownBlock = some k ∧ w.heap.size ≤ k)

set_option maxHeartbeats 1600000 in
theorem l3putg_any (B : Nat) (zss : List (List Int)) (g n cap : Nat) (A : Option Addr) (m c B' : Nat) (p : List Int) (w : World) (hS : IntsS w B (.slice (some ⟨g, 0, none⟩) n cap) zss) (hp : Arg w B' A m c p) (hB : B ≤ w.heap.size)
    (hall : ∀ z ∈ zss, isP z = true) (hn : n ≤ 1048576) :
    Calls Try.prog 72 #[.slice (some ⟨g, 0, none⟩) n cap, .slice A m c] w (PutEndsG w B g (putL zss p)) := by
  have hl := hS.len
  have HL := hide hl
  have HALL := hide hall
  clear hl hall
  go_enter Try.func72, Try.ntmps72
  go_wp2
  go_loopw [5] (fun i wr => ∃ k : Nat, k ≤ n ∧ i = .int .i64 k ∧ Drew w wr ∧ Hid (scanL zss p n = scanL zss p k)) (fun i _ => (intOf i).toNat)
  case atStart => exact ⟨n, Nat.le_refl _, rfl, Drew.refl _, by exact rfl⟩
  case round =>
    obtain ⟨k, hk, rfl, hd, hsc⟩ := hrel
    cases k with
    | zero =>
      have hput : Hid (putL zss p = zss.take 0 ++ [p] ++ zss.drop 0) := by
        have h := unhide hsc
        rw [← unhide HL] at h
        show putL zss p = _
        unfold putL
        rw [h, scanL, if_neg (by omega)]
      have hbW := hd.below w.heap.size
      have hkw : KG g w wr := ⟨hd.keepI, grown_of_below (hd.below _) _⟩
      have hp := hp.below hbW
      have hS := hS.below hbW
      have hks : 0 ≤ n := Nat.zero_le n
      clear hsc
      obtain ⟨vs, hown, hin⟩ := hS
      rw [unhide HL] at hown
      have hgl := (hown.lt g rfl).2
      have hst := ownS0 wr wr.heap.size (Nat.le_refl _)
      have hbel := (Below.refl wr.heap.size wr).alloc (Nat.le_refl _) (.cells #[] 22)
      have hrest := ((own_rest hown hks).below hbel)
      have hones : ∀ u ∈ vs.drop (0), u.oneCell' = true := fun u hu => own_news hown hin u (List.mem_of_mem_drop hu)
      have HONES := hide hones
      go_wp2_with (at_builtin; refine wpList_append_rows rfl (.tmp 34) (.tmp 37) rfl wr.heap.size wr.heap.size 0 (n) (cap) wr _ (some ⟨g, 0, none⟩) [] (vs.drop (0)) rfl rfl hst hrest (fun h => by cases h) hones (by omega) (by omega) hbel hbel.size ?_; intro v6 w6 hown6 hb6 hg6 hnil6)
      rw [Nat.zero_add, List.nil_append] at hown6
      obtain ⟨g6, cap6, rfl, hg6l, hcap6⟩ := own_shape hown6 (fun h => by cases hnil6 h)
      have hA6 := hp.below hb6
      have hst6 := own0 w6 w6.heap.size (Nat.le_refl _)
      have hbel6 := (Below.refl w6.heap.size w6).alloc (Nat.le_refl _) (.cells #[] 3)
      have hA7 := (hA6.below hbel6).drew
      have hs6 := hbel6.size
      have hown7 := own_below hown hb6
      have hin7 := hin.keepI (KeepI.of_below hb6)
      have hkw6 := hkw.more hb6
      have hbw6 := (hbW.mono hB).trans (hb6.mono (Nat.le_trans hB hbW.size))
      clear hst hbel hrest hones hp hkw hin hown hg6 hnil6
      go_region_held3 (fun _ => True) (trivial)
        (first
         | ((refine step_append_arg (by rfl) (.tmp 42) (.tmp 43) (by rfl) w6.heap.size B' 0 m c w6 _ A [] p (by rfl) (by rfl) hst6 hA7 (by omega) hbel6.drew hs6 ?_); intro v7 w7 hw7 hb7 hg7; clear hg7;
            have hI7 : Ints w7 w6.heap.size v7 p := Ints.of_own hw7;
            obtain ⟨A7, c7, rfl⟩ := hI7.slice;
            have hone7 : ∀ u ∈ [Value.slice A7 p.length c7], u.oneCell' = true := (fun u hu => by (rw [List.mem_singleton] at hu; subst hu; rfl));
            have haw7 := hin7.away_new hI7.since (Nat.le_refl _);
            have hin8 := hin7.keepI (KeepI.of_below hb7);
            have hown8 := own_cut (own_below hown7 hb7) hks;
            have hrest8 := own_below hown6 hb7;
            have hkw8 := hkw6.more hb7;
            have hbw8 := hbw6.trans (hb7.mono (Nat.le_trans hB (Nat.le_trans hbW.size hb6.size)));
            have hsz8 : B ≤ w7.heap.size := Nat.le_trans hB (Nat.le_trans hbW.size (Nat.le_trans hb6.size hb7.size));
            have hx8 := reads_new w7 (.slice A7 p.length c7) 22;
            have hal := (Below.refl w7.heap.size w7).alloc (Nat.le_refl _) (.cells #[.slice A7 p.length c7] 22);
            clear hst6 hbel6 hA7 hs6 hown7 hown6 hin7 hkw6 hbw6 hw7 hb7)
         | ((refine step_append_rows_at (by rfl) (.tmp 41) (.tmp 45) (by rfl) B (w7.heap.size + 1) (0) 1 1 w _ ⟨w7.heap.size, 0, none⟩ (vs.take (0)) [.slice A7 p.length c7] (by rfl) (by rfl) (own_below hown8 hal) hx8 hone7 (by omega) (by omega) (hbw8.trans (hal.mono hsz8)) (Nat.le_trans hsz8 hal.size) ?_); intro v9 w9 hown9 hb9 hg9 hnil9 hat9;
            have hsw9 := Nat.le_trans hkw8.gr.size hal.size; have hk9 := (hkw8.more hal).grown (own_below hown8 hal) hg9 (.inl rfl);
            have hin9 := (hin8.keepI (KeepI.of_below hal)).keepI (KeepI.of_grown (own_below hown8 hal) hg9);
            have hI9 := (hI7.keepI (KeepI.of_below hal)).keepI (KeepI.of_grown (own_below hown8 hal) hg9);
            have hrest9 := (own_below hrest8 hal).kept hg9 (.inr (fun e => by (have e2 : g6 = g := by simpa [Value.ownBlock] using e); omega));
            have hsz9 := Nat.le_trans hsz8 (Nat.le_trans hal.size hg9.size);
            clear hown8 hrest8 hkw8 hbw8 hsz8 hx8 hal hin8 hI7 hone7 hg9)
         | ((refine step_append_rows_at (by rfl) (.tmp 46) (.tmp 47) (by rfl) B w9.heap.size (0 + 1) (n) cap6 w _ ⟨g6, 0, none⟩ (vs.take (0) ++ [.slice A7 p.length c7]) (vs.drop (0)) (by rfl) (by rfl) hown9 (Reads.of_own_at hrest9) (unhide HONES) (by omega) (by omega) hb9 hsz9 ?_); intro v10 w10 hown10 hb10 hg10 hnil10 hat10;
            have hat9' := (hat9.elim (fun h => Or.inl h) (fun h => Or.inr ⟨_, h, hsw9⟩) : v9.ownBlock = some g ∨ ∃ k, v9.ownBlock = some k ∧ w.heap.size ≤ k); have hk10 := hk9.grown hown9 hg10 hat9'; have hsv9 := hk9.gr.size; have hat10' := (hat10.elim (fun h => h ▸ hat9') (fun h => Or.inr ⟨_, h, hsv9⟩) : v10.ownBlock = some g ∨ ∃ k, v10.ownBlock = some k ∧ w.heap.size ≤ k);
            have hin10 := hin9.keepI (KeepI.of_grown hown9 hg10);
            have hI10 := hI9.keepI (KeepI.of_grown hown9 hg10);
            clear hk9 hin9 hI9 hown9 hrest9))
      have hfin : PutS w10 B v10 (putL zss p) := by
        have hz := unhide HL
        have hin := hin10.put (s := 0) (by rw [hz]; exact hks) (hI10.low (Nat.le_trans hB (Nat.le_trans hbW.size hb6.size))) haw7
        have hlen : (zss.take (0) ++ [p] ++ zss.drop (0)).length = 0 + 1 + (n) := by
          simp only [List.length_append, List.length_take, List.length_drop, List.length_singleton]
          omega
        rw [unhide hput]
        obtain ⟨g10, cap10, h10, _, _⟩ := own_shape hown10 (fun h => by cases hnil9 (hnil10 h))
        exact ⟨⟨_, by rw [hlen]; exact hown10, hin⟩, g10, cap10, by rw [hlen]; exact h10⟩
      clear hown10 hin10 hI10 hnil9 hnil10 haw7
      go_wp2
      go_ret
      exact ⟨v10, rfl, hfin, hb10, hk10, hat10'⟩
    | succ k =>
      obtain ⟨ad, A1, c1, z, he, hz, hcell, hI⟩ := (hS.below (hd.below _)).at_ (show k < n by omega)
      injection he with he
      subst he
      have hcell : wr.cell? ⟨g, k, none⟩ = some (.slice A1 z.length c1) := by
        rwa [show (⟨g, 0, none⟩ : Addr).add k = ⟨g, k, none⟩ by unfold Addr.add; split <;> simp_all] at hcell
      have hzP := unhide HALL z (List.mem_of_getElem? hz)
      have hAz := hI.argP hzP
      obtain ⟨b, hb⟩ : ∃ b, befL p z = b := ⟨_, rfl⟩
      have hpW := hp.below (hd.below _)
      have H1 := hide (l2bef_any A A1 m c B' z.length c1 wr.heap.size p z b hb wr hpW hAz)
      have hki : ((k + 1 : Nat) : Int) - 1 = (k : Int) := by omega
      cases b with
      | true =>
        have hnext := hide ((unhide hsc).trans (scanL_yes hz hb))
        clear hz hb hI hAz hsc hpW hS hp
        go_wp2_with fail
        refine (unhide H1).mono ?_
        rintro e w1 ⟨rfl, hd1⟩
        have hd2 := hd.trans hd1
        clear H1 hd hd1
        go_wp2
        go_roundw
        case rel => exact ⟨k, by omega, by go_num, hd2, hnext⟩
        case measure => simp [intOf]
      | false =>
        have hsc1 := (unhide hsc).trans (scanL_no hz hb)
        rw [← unhide HL] at hsc1
        obtain ⟨b2, hb2⟩ : ∃ b, decide (z = p) = b := ⟨_, rfl⟩
        have H2 := hide (fun w' (hb' : Below wr.heap.size wr w') => l2same_any A1 A z.length c1 wr.heap.size m c B' z p b2 hb2 w' ((hI.below hb').argP hzP |>.more (Nat.le_refl _) (Nat.le_refl _) |> fun h => ⟨hI.reads.below hb', hb'.size, h.le, h.cap, h.small, h.nil⟩) (hpW.below hb'))
        have hput : Hid (putL zss p = if b2 = true then zss else zss.take (k + 1) ++ [p] ++ zss.drop (k + 1)) := by
          show putL zss p = _
          unfold putL
          rw [hsc1, show k + 1 - 1 = k by omega, getD_of hz]
          cases b2 with
          | true => rw [if_pos ⟨by omega, of_decide_eq_true hb2⟩, if_pos rfl]
          | false => rw [if_neg (fun h => of_decide_eq_false hb2 h.2), if_neg (by simp)]
        clear hz hb hI hAz hsc hsc1 hb2 hpW
        go_wp2_with fail
        refine (unhide H1).mono ?_
        rintro e w1 ⟨rfl, hd1⟩
        have H3 := hide (unhide H2 w1 (hd1.below _))
        have hcell1 := (hd1.cell ⟨g, k, none⟩).trans hcell
        replace hd := hd.trans hd1
        clear H1 H2 hd1 hcell
        go_wp2_with fail
        refine (unhide H3).mono ?_
        rintro e w2 ⟨rfl, hd2⟩
        replace hd := hd.trans hd2
        have hbW := hd.below w.heap.size
        have hkw : KG g w w2 := ⟨hd.keepI, grown_of_below (hd.below _) _⟩
        replace hp := hp.below hbW
        replace hS := hS.below hbW
        clear H3 hd2 hcell1
        cases b2 with
        | true =>
          replace hput := hide ((unhide hput).trans (if_pos rfl))
          go_wp2
          go_ret
          rw [← unhide hput] at hS
          exact ⟨.slice (some ⟨g, 0, none⟩) n cap, rfl, ⟨hS, g, cap, by rw [hS.len]⟩, hbW.mono hB, hkw, .inl rfl⟩
        | false =>
          replace hput := hide ((unhide hput).trans (if_neg (by simp)))
          have hcn : n ≤ cap := by
            obtain ⟨vs, hown, _⟩ := hS
            rw [unhide HL] at hown
            rcases hown.2 with ⟨hv, _⟩ | ⟨g', cap', cur, hv, _, _, h3, _⟩
            · cases hv
            · injection hv with _ _ h4; omega
          by_cases hcap : cap = k + 1
          · subst hcap
            obtain rfl : n = k + 1 := by omega
            have hbd0 : (0 : Int) ≤ (k : Int) + 1 := by omega
            have hbd1 : (k : Int) + 1 ≤ ((k + 1 : Nat) : Int) := by omega
            have hks : k + 1 ≤ k + 1 := Nat.le_refl _
            obtain ⟨vs, hown, hin⟩ := hS
            rw [unhide HL] at hown
            have hgl := (hown.lt g rfl).2
            have hst := ownS0 w2 w2.heap.size (Nat.le_refl _)
            have hbel := (Below.refl w2.heap.size w2).alloc (Nat.le_refl _) (.cells #[] 22)
            have hrest : Reads (w2.alloc (.cells #[] 22)) w2.heap.size (some ⟨g, 0, none⟩) 0 (vs.drop (k + 1)) := ⟨by rw [List.length_drop]; have := hown.1; omega, fun h => by omega⟩
            have hones : ∀ u ∈ vs.drop (k + 1), u.oneCell' = true := fun u hu => own_news hown hin u (List.mem_of_mem_drop hu)
            have HONES := hide hones
            go_wp2_with (at_builtin; refine wpList_append_rows rfl (.tmp 34) (.tmp 37) rfl w2.heap.size w2.heap.size 0 (0) (0) w2 _ (some ⟨g, 0, none⟩) [] (vs.drop (k + 1)) rfl rfl hst hrest (fun h => by cases h) hones (by omega) (by omega) hbel hbel.size ?_; intro v6 w6 hown6 hb6 hg6 hnil6)
            rw [Nat.zero_add, List.nil_append] at hown6
            obtain ⟨g6, cap6, rfl, hg6l, hcap6⟩ := own_shape hown6 (fun h => by cases hnil6 h)
            have hA6 := hp.below hb6
            have hst6 := own0 w6 w6.heap.size (Nat.le_refl _)
            have hbel6 := (Below.refl w6.heap.size w6).alloc (Nat.le_refl _) (.cells #[] 3)
            have hA7 := (hA6.below hbel6).drew
            have hs6 := hbel6.size
            have hown7 := own_below hown hb6
            have hin7 := hin.keepI (KeepI.of_below hb6)
            have hkw6 := hkw.more hb6
            have hbw6 := (hbW.mono hB).trans (hb6.mono (Nat.le_trans hB hbW.size))
            clear hst hbel hrest hones hp hkw hin hown hg6 hnil6
            go_region_held3 (fun _ => True) (trivial)
              (first
               | ((refine step_append_arg (by rfl) (.tmp 42) (.tmp 43) (by rfl) w6.heap.size B' 0 m c w6 _ A [] p (by rfl) (by rfl) hst6 hA7 (by omega) hbel6.drew hs6 ?_); intro v7 w7 hw7 hb7 hg7; clear hg7;
                  have hI7 : Ints w7 w6.heap.size v7 p := Ints.of_own hw7;
                  obtain ⟨A7, c7, rfl⟩ := hI7.slice;
                  have hone7 : ∀ u ∈ [Value.slice A7 p.length c7], u.oneCell' = true := (fun u hu => by (rw [List.mem_singleton] at hu; subst hu; rfl));
                  have haw7 := hin7.away_new hI7.since (Nat.le_refl _);
                  have hin8 := hin7.keepI (KeepI.of_below hb7);
                  have hown8 := own_cut (own_below hown7 hb7) hks;
                  have hrest8 := own_below hown6 hb7;
                  have hkw8 := hkw6.more hb7;
                  have hbw8 := hbw6.trans (hb7.mono (Nat.le_trans hB (Nat.le_trans hbW.size hb6.size)));
                  have hsz8 : B ≤ w7.heap.size := Nat.le_trans hB (Nat.le_trans hbW.size (Nat.le_trans hb6.size hb7.size));
                  have hx8 := reads_new w7 (.slice A7 p.length c7) 22;
                  have hal := (Below.refl w7.heap.size w7).alloc (Nat.le_refl _) (.cells #[.slice A7 p.length c7] 22);
                  clear hst6 hbel6 hA7 hs6 hown7 hown6 hin7 hkw6 hbw6 hw7 hb7)
               | ((refine step_append_rows_at (by rfl) (.tmp 41) (.tmp 45) (by rfl) B (w7.heap.size + 1) (k + 1) 1 1 w _ ⟨w7.heap.size, 0, none⟩ (vs.take (k + 1)) [.slice A7 p.length c7] (by rfl) (by rfl) (own_below hown8 hal) hx8 hone7 (by omega) (by omega) (hbw8.trans (hal.mono hsz8)) (Nat.le_trans hsz8 hal.size) ?_); intro v9 w9 hown9 hb9 hg9 hnil9 hat9;
                  have hsw9 := Nat.le_trans hkw8.gr.size hal.size; have hk9 := (hkw8.more hal).grown (own_below hown8 hal) hg9 (.inl rfl);
                  have hin9 := (hin8.keepI (KeepI.of_below hal)).keepI (KeepI.of_grown (own_below hown8 hal) hg9);
                  have hI9 := (hI7.keepI (KeepI.of_below hal)).keepI (KeepI.of_grown (own_below hown8 hal) hg9);
                  have hrest9 := (own_below hrest8 hal).kept hg9 (.inr (fun e => by (have e2 : g6 = g := by simpa [Value.ownBlock] using e); omega));
                  have hsz9 := Nat.le_trans hsz8 (Nat.le_trans hal.size hg9.size);
                  clear hown8 hrest8 hkw8 hbw8 hsz8 hx8 hal hin8 hI7 hone7 hg9)
               | ((refine step_append_rows_at (by rfl) (.tmp 46) (.tmp 47) (by rfl) B w9.heap.size (k + 1 + 1) (0) cap6 w _ ⟨g6, 0, none⟩ (vs.take (k + 1) ++ [.slice A7 p.length c7]) (vs.drop (k + 1)) (by rfl) (by rfl) hown9 (Reads.of_own_at hrest9) (unhide HONES) (by omega) (by omega) hb9 hsz9 ?_); intro v10 w10 hown10 hb10 hg10 hnil10 hat10;
                  have hat9' := (hat9.elim (fun h => Or.inl h) (fun h => Or.inr ⟨_, h, hsw9⟩) : v9.ownBlock = some g ∨ ∃ k, v9.ownBlock = some k ∧ w.heap.size ≤ k); have hk10 := hk9.grown hown9 hg10 hat9'; have hsv9 := hk9.gr.size; have hat10' := (hat10.elim (fun h => h ▸ hat9') (fun h => Or.inr ⟨_, h, hsv9⟩) : v10.ownBlock = some g ∨ ∃ k, v10.ownBlock = some k ∧ w.heap.size ≤ k);
                  have hin10 := hin9.keepI (KeepI.of_grown hown9 hg10);
                  have hI10 := hI9.keepI (KeepI.of_grown hown9 hg10);
                  clear hk9 hin9 hI9 hown9 hrest9))
            have hfin : PutS w10 B v10 (putL zss p) := by
              have hz := unhide HL
              have hin := hin10.put (s := k + 1) (by rw [hz]; exact hks) (hI10.low (Nat.le_trans hB (Nat.le_trans hbW.size hb6.size))) haw7
              have hlen : (zss.take (k + 1) ++ [p] ++ zss.drop (k + 1)).length = k + 1 + 1 + (0) := by
                simp only [List.length_append, List.length_take, List.length_drop, List.length_singleton]
                omega
              rw [unhide hput]
              obtain ⟨g10, cap10, h10, _, _⟩ := own_shape hown10 (fun h => by cases hnil9 (hnil10 h))
              exact ⟨⟨_, by rw [hlen]; exact hown10, hin⟩, g10, cap10, by rw [hlen]; exact h10⟩
            clear hown10 hin10 hI10 hnil9 hnil10 haw7
            go_wp2
            go_ret
            exact ⟨v10, rfl, hfin, hb10, hk10, hat10'⟩
          · have hbd0 : (0 : Int) ≤ (k : Int) + 1 := by omega
            have hbd1 : (k : Int) + 1 ≤ (cap : Int) := by omega
            have hks : k + 1 ≤ n := hk
            clear hcn
            obtain ⟨vs, hown, hin⟩ := hS
            rw [unhide HL] at hown
            have hgl := (hown.lt g rfl).2
            have hst := ownS0 w2 w2.heap.size (Nat.le_refl _)
            have hbel := (Below.refl w2.heap.size w2).alloc (Nat.le_refl _) (.cells #[] 22)
            have hrest := ((own_rest hown hks).below hbel)
            have hones : ∀ u ∈ vs.drop (k + 1), u.oneCell' = true := fun u hu => own_news hown hin u (List.mem_of_mem_drop hu)
            have HONES := hide hones
            go_wp2_with (at_builtin; refine wpList_append_rows rfl (.tmp 34) (.tmp 37) rfl w2.heap.size w2.heap.size 0 (n - (k + 1)) (cap - (k + 1)) w2 _ (some ⟨g, k + 1, none⟩) [] (vs.drop (k + 1)) rfl rfl hst hrest (fun h => by cases h) hones (by omega) (by omega) hbel hbel.size ?_; intro v6 w6 hown6 hb6 hg6 hnil6)
            rw [Nat.zero_add, List.nil_append] at hown6
            obtain ⟨g6, cap6, rfl, hg6l, hcap6⟩ := own_shape hown6 (fun h => by cases hnil6 h)
            have hA6 := hp.below hb6
            have hst6 := own0 w6 w6.heap.size (Nat.le_refl _)
            have hbel6 := (Below.refl w6.heap.size w6).alloc (Nat.le_refl _) (.cells #[] 3)
            have hA7 := (hA6.below hbel6).drew
            have hs6 := hbel6.size
            have hown7 := own_below hown hb6
            have hin7 := hin.keepI (KeepI.of_below hb6)
            have hkw6 := hkw.more hb6
            have hbw6 := (hbW.mono hB).trans (hb6.mono (Nat.le_trans hB hbW.size))
            clear hst hbel hrest hones hp hkw hin hown hg6 hnil6
            go_region_held3 (fun _ => True) (trivial)
              (first
               | ((refine step_append_arg (by rfl) (.tmp 42) (.tmp 43) (by rfl) w6.heap.size B' 0 m c w6 _ A [] p (by rfl) (by rfl) hst6 hA7 (by omega) hbel6.drew hs6 ?_); intro v7 w7 hw7 hb7 hg7; clear hg7;
                  have hI7 : Ints w7 w6.heap.size v7 p := Ints.of_own hw7;
                  obtain ⟨A7, c7, rfl⟩ := hI7.slice;
                  have hone7 : ∀ u ∈ [Value.slice A7 p.length c7], u.oneCell' = true := (fun u hu => by (rw [List.mem_singleton] at hu; subst hu; rfl));
                  have haw7 := hin7.away_new hI7.since (Nat.le_refl _);
                  have hin8 := hin7.keepI (KeepI.of_below hb7);
                  have hown8 := own_cut (own_below hown7 hb7) hks;
                  have hrest8 := own_below hown6 hb7;
                  have hkw8 := hkw6.more hb7;
                  have hbw8 := hbw6.trans (hb7.mono (Nat.le_trans hB (Nat.le_trans hbW.size hb6.size)));
                  have hsz8 : B ≤ w7.heap.size := Nat.le_trans hB (Nat.le_trans hbW.size (Nat.le_trans hb6.size hb7.size));
                  have hx8 := reads_new w7 (.slice A7 p.length c7) 22;
                  have hal := (Below.refl w7.heap.size w7).alloc (Nat.le_refl _) (.cells #[.slice A7 p.length c7] 22);
                  clear hst6 hbel6 hA7 hs6 hown7 hown6 hin7 hkw6 hbw6 hw7 hb7)
               | ((refine step_append_rows_at (by rfl) (.tmp 41) (.tmp 45) (by rfl) B (w7.heap.size + 1) (k + 1) 1 1 w _ ⟨w7.heap.size, 0, none⟩ (vs.take (k + 1)) [.slice A7 p.length c7] (by rfl) (by rfl) (own_below hown8 hal) hx8 hone7 (by omega) (by omega) (hbw8.trans (hal.mono hsz8)) (Nat.le_trans hsz8 hal.size) ?_); intro v9 w9 hown9 hb9 hg9 hnil9 hat9;
                  have hsw9 := Nat.le_trans hkw8.gr.size hal.size; have hk9 := (hkw8.more hal).grown (own_below hown8 hal) hg9 (.inl rfl);
                  have hin9 := (hin8.keepI (KeepI.of_below hal)).keepI (KeepI.of_grown (own_below hown8 hal) hg9);
                  have hI9 := (hI7.keepI (KeepI.of_below hal)).keepI (KeepI.of_grown (own_below hown8 hal) hg9);
                  have hrest9 := (own_below hrest8 hal).kept hg9 (.inr (fun e => by (have e2 : g6 = g := by simpa [Value.ownBlock] using e); omega));
                  have hsz9 := Nat.le_trans hsz8 (Nat.le_trans hal.size hg9.size);
                  clear hown8 hrest8 hkw8 hbw8 hsz8 hx8 hal hin8 hI7 hone7 hg9)
               | ((refine step_append_rows_at (by rfl) (.tmp 46) (.tmp 47) (by rfl) B w9.heap.size (k + 1 + 1) (n - (k + 1)) cap6 w _ ⟨g6, 0, none⟩ (vs.take (k + 1) ++ [.slice A7 p.length c7]) (vs.drop (k + 1)) (by rfl) (by rfl) hown9 (Reads.of_own_at hrest9) (unhide HONES) (by omega) (by omega) hb9 hsz9 ?_); intro v10 w10 hown10 hb10 hg10 hnil10 hat10;
                  have hat9' := (hat9.elim (fun h => Or.inl h) (fun h => Or.inr ⟨_, h, hsw9⟩) : v9.ownBlock = some g ∨ ∃ k, v9.ownBlock = some k ∧ w.heap.size ≤ k); have hk10 := hk9.grown hown9 hg10 hat9'; have hsv9 := hk9.gr.size; have hat10' := (hat10.elim (fun h => h ▸ hat9') (fun h => Or.inr ⟨_, h, hsv9⟩) : v10.ownBlock = some g ∨ ∃ k, v10.ownBlock = some k ∧ w.heap.size ≤ k);
                  have hin10 := hin9.keepI (KeepI.of_grown hown9 hg10);
                  have hI10 := hI9.keepI (KeepI.of_grown hown9 hg10);
                  clear hk9 hin9 hI9 hown9 hrest9))
            have hfin : PutS w10 B v10 (putL zss p) := by
              have hz := unhide HL
              have hin := hin10.put (s := k + 1) (by rw [hz]; exact hks) (hI10.low (Nat.le_trans hB (Nat.le_trans hbW.size hb6.size))) haw7
              have hlen : (zss.take (k + 1) ++ [p] ++ zss.drop (k + 1)).length = k + 1 + 1 + (n - (k + 1)) := by
                simp only [List.length_append, List.length_take, List.length_drop, List.length_singleton]
                omega
              rw [unhide hput]
              obtain ⟨g10, cap10, h10, _, _⟩ := own_shape hown10 (fun h => by cases hnil9 (hnil10 h))
              exact ⟨⟨_, by rw [hlen]; exact hown10, hin⟩, g10, cap10, by rw [hlen]; exact h10⟩
            clear hown10 hin10 hI10 hnil9 hnil10 haw7
            go_wp2
            go_ret
            exact ⟨v10, rfl, hfin, hb10, hk10, hat10'⟩
end Go.Proofs.Ytffdnpgalpcigaa


/-
  spec.l6Roots, spec.RootsIn, by their contracts.
-/

namespace Go.Proofs.Ytffdnpgalpcigaa
set_option maxRecDepth 100000
open Go.RowKit

theorem fold_len : ∀ (l a : List (List Int)), (l.foldl putL a).length ≤ a.length + l.length
  | [], a => by simp
  | p :: l, a => by
    have h1 := fold_len l (putL a p)
    have h2 := (putL_len a p).2
    rw [List.foldl_cons, List.length_cons]; omega
theorem fold_mem : ∀ (l a : List (List Int)) (x : List Int), x ∈ l.foldl putL a → x ∈ a ∨ x ∈ l
  | [], a, x, h => .inl h
  | p :: l, a, x, h => by
    rcases fold_mem l (putL a p) x h with h | h
    · rcases mem_putL.1 h with h | rfl
      · exact .inl h
      · exact .inr (by simp)
    · exact .inr (List.mem_cons_of_mem _ h)
theorem KG.refl (g : Nat) (w : World) : KG g w w := ⟨KeepI.refl w, World.grownBy.refl w _⟩
theorem KG.step {g k : Nat} {w a b : World} (h : KG g w a) (h2 : KG k a b) (hk : k = g ∨ w.heap.size ≤ k) : KG g w b :=
  ⟨h.keep.trans h2.keep, ⟨h2.gr.os.trans h.gr.os, h2.gr.tape.trans h.gr.tape, h2.gr.output.trans h.gr.output, Nat.le_trans h.gr.size h2.gr.size, fun i hi hne => (h2.gr.block i (Nat.lt_of_lt_of_le hi h.gr.size) (fun e => by
    injection e with e
    rcases hk with rfl | hk
    · exact hne (by rw [e])
    · omega)).trans (h.gr.block i hi hne)⟩⟩
theorem IntsS.aloof {w w' : World} {B g : Nat} {v : Value} {zss : List (List Int)} (h : IntsS w B v zss) (hk : KG g w w') (hne : v.ownBlock = none ∨ v.ownBlock ≠ some g) : IntsS w' B v zss := by
  obtain ⟨vs, h1, h2⟩ := h
  exact ⟨vs, h1.kept hk.gr hne, h2.keepI hk.keep⟩
/-- The list of roots so far. -/
def soFar (m : Nat) (p : List Int) (R zss : List (List Int)) (j : Nat) : List (List Int) := (rtsK m p R j).foldl putL zss
theorem soFar_step {m j : Nat} {p z : List Int} {R zss : List (List Int)} (h : R[j]? = some z) : soFar m p R zss (j + 1) = (rtsF m z).foldl putL (soFar m p R zss j) := by
  unfold soFar
  rw [rtsK_step h, List.foldl_append]

set_option maxHeartbeats 1600000 in
theorem sl6roots_any : ∀ (m : Nat) (A : Option Addr) (n c B' : Nat) (zs : List Int) (B g k cap : Nat) (zss : List (List Int)) (w : World) (_ : Arg w B' A n c zs) (_ : isP zs = true) (_ : n ≤ m + 1) (_ : m ≤ 1000)
    (_ : IntsS w B (.slice (some ⟨g, 0, none⟩) k cap) zss) (_ : B ≤ w.heap.size) (_ : ∀ z ∈ zss, isP z = true) (_ : zss.length + (rtsF m zs).length ≤ 1048576),
    Calls Try.prog 53 #[.slice A n c, .slice (some ⟨g, 0, none⟩) k cap] w (PutEndsG w B g ((rtsF m zs).foldl putL zss)) := by
  intro m
  induction m with
  | zero =>
    intro A n c B' zs B g k cap zss w h hp hn hm hS hB hall hlen
    have hl := h.len
    have hlow : (n : Int) < 2 := by omega
    have hk := hS.len
    rw [rtsF_low (by omega)]
    clear h hp hl hn hall hlen
    go_enter Try.func53, Try.ntmps53
    go_wp2
    go_ret
    exact ⟨.slice (some ⟨g, 0, none⟩) k cap, rfl, ⟨hS, g, cap, by rw [List.foldl_nil, hk]⟩, Below.refl _ _, KG.refl _ _, .inl rfl⟩
  | succ m ih =>
    intro A n c B' zs B g k cap zss w h hp hn hm hS hB hall hlen
    have hl := h.len
    by_cases h2 : n < 2
    · have hlow : (n : Int) < 2 := by omega
      have hk := hS.len
      rw [rtsF_low (by omega)]
      clear h hp hl hn hall hlen
      go_enter Try.func53, Try.ntmps53
      go_wp2
      go_ret
      exact ⟨.slice (some ⟨g, 0, none⟩) k cap, rfl, ⟨hS, g, cap, by rw [List.foldl_nil, hk]⟩, Below.refl _ _, KG.refl _ _, .inl rfl⟩
    · have hlow : ¬ (n : Int) < 2 := by omega
      have H0 := hide (l6split_any A n c B' zs w h hp (by omega))
      have hroot := rootP_isP hp
      have HP := hide (fun z hz => pcsP_at hp z hz)
      have hpc := pcsP_len hp
      have h8 := isP_le hp
      rw [rtsF_many (by omega), List.length_cons] at hlen
      have HE : Hid ((rtsF (m + 1) zs).foldl putL zss = soFar m zs (pcsP zs) zss (pcsP zs).length) := hide (by unfold soFar; rw [rtsF_many (by omega), rtsK_all])
      have hfs : ∀ j, (soFar m zs (pcsP zs) zss j).length ≤ zss.length + 1 + (((pcsP zs).take j).flatMap (rtsF m)).length := fun j => by
        have := fold_len (rtsK m zs (pcsP zs) j) zss
        unfold soFar
        unfold rtsK at this ⊢
        rw [List.length_cons] at this
        omega
      have HALL := hide (fun j z (hz : z ∈ soFar m zs (pcsP zs) zss j) => show isP z = true from by
        rcases fold_mem _ _ _ hz with h | h
        · exact hall z h
        · rcases List.mem_cons.1 h with rfl | h
          · exact hroot
          · obtain ⟨y, hy, h⟩ := List.mem_flatMap.1 h
            exact rtsF_all m (pcsP_at hp y (List.mem_of_mem_take hy)).1 z h)
      have HLEN := hide (fun j z (hz : (pcsP zs)[j]? = some z) => show (soFar m zs (pcsP zs) zss j).length + (rtsF m z).length ≤ 1048576 from by
        have h1 := hfs j
        have h3 := flat_take_len (m := m) (k := j + 1) (R := pcsP zs)
        rw [List.take_add_one, hz] at h3
        simp only [Option.toList_some, List.flatMap_append, List.flatMap_cons, List.flatMap_nil, List.append_nil, List.length_append] at h3
        omega)
      have H1 := hide (fun (w' : World) A3 c3 b3 (hr : Arg w' b3 A3 (rootP zs).length c3 (rootP zs)) (hS' : IntsS w' B (.slice (some ⟨g, 0, none⟩) k cap) zss) (hB' : B ≤ w'.heap.size) => l3putg_any B zss g k cap A3 (rootP zs).length c3 b3 (rootP zs) w' hS' hr hB' hall (by have := hS.len; omega))
      have HZ : Hid (soFar m zs (pcsP zs) zss 0 = putL zss (rootP zs)) := hide (by simp [soFar, rtsK])
      have hgl : g < w.heap.size := by
        obtain ⟨vs, hown, _⟩ := hS
        exact (hown.lt g rfl).2
      obtain ⟨R, hR⟩ : ∃ R, pcsP zs = R := ⟨_, rfl⟩
      rw [hR] at H0 HP hpc HALL HLEN HZ HE
      obtain ⟨r, hr⟩ : ∃ r, rootP zs = r := ⟨_, rfl⟩
      rw [hr] at H0 H1 HZ hroot
      rw [unhide HE]
      have HRT := hide hroot
      have HL := hide hl
      clear hR hr hlen hfs h hp hl hall hroot HE
      go_enter Try.func53, Try.ntmps53
      go_wp2_with fail
      refine (unhide H0).mono ?_
      rintro e w2 ⟨A3, c3, A4, c4, rfl, hIn, hb2⟩
      have hal := (Below.refl _ w2).alloc (Nat.le_refl _) (.cells #[.slice A3 r.length c3, .slice A4 R.length c4] 25)
      have hb3 := below_after hb2 hal
      have hW := Whole.new w2 25 #[.slice A3 r.length c3, .slice A4 R.length c4]
      have hI3 := hIn.below hal
      have HA := hide (hI3.row.argP (unhide HRT))
      have hP3 := hI3.pcs.intsS
      have hun : Until w2.heap.size (.slice A4 R.length c4) := by
        obtain ⟨vs, hown, _⟩ := hIn.pcs.intsS
        exact fun q hq => (hown.lt q hq).2
      have hsz2 := hb2.size
      have H2 := hide (unhide H1 _ _ _ _ (unhide HA) (hS.below hb3) (by simp; omega))
      clear H0 H1 HA hIn hI3 hb2 hal hS
      go_wp2_with fail
      refine (unhide H2).mono ?_
      rintro e w4 ⟨v4, rfl, hS4, hb4, hk4, hat4⟩
      simp only [World.size_alloc] at hat4
      have hW4 := hW.grown hk4.gr (fun e => by injection e with e; omega)
      have hP4 := hP3.aloof hk4 (by
        cases hq : (Value.slice A4 R.length c4).ownBlock with
        | none => exact .inl rfl
        | some q =>
          obtain ⟨vs, hown, _⟩ := hP3
          have := (hown.lt q hq).1
          exact .inr (fun e => by injection e with e; omega))
      have hb5 := (hb3.mono hB).trans hb4
      have hk5 : KG g w w4 := (KG.more (KG.refl g w) hb3).step hk4 (.inl rfl)
      rw [← unhide HZ] at hS4
      have HC := hide (And.intro hb5 (And.intro hk5 (And.intro hW4 hP4)))
      clear H2 HZ hb3 hW hP3 hb4 hk4 hW4 hP4 hb5 hk5
      have q1 := (unhide HC).2.2.1.cell 1
      simp only [List.getElem?_toArray, List.getElem?_cons_zero, List.getElem?_cons_succ] at q1
      go_wp2
      go_loopw [1, 6] (fun v i wr => ∃ j : Nat, j ≤ R.length ∧ i = .int .i64 j ∧ PutS wr B v (soFar m zs R zss j) ∧ (v.ownBlock = some g ∨ ∃ b, v.ownBlock = some b ∧ w2.heap.size + 1 ≤ b) ∧ Hid (Below B w wr ∧ KG g w wr ∧ Whole wr w2.heap.size 25 #[.slice A3 r.length c3, .slice A4 R.length c4] ∧ IntsS wr w.heap.size (.slice A4 R.length c4) R)) (fun _ i _ => R.length - (intOf i).toNat)
      case atStart => exact ⟨0, Nat.zero_le _, rfl, hS4, hat4, HC⟩
      case round =>
        obtain ⟨j, hj, rfl, hSr, hatr, HCr⟩ := hrel
        clear hS4 hat4 HC q1
        have q1 := (unhide HCr).2.2.1.cell 1
        have l1 := (unhide HCr).2.2.1.lt
        simp only [List.getElem?_toArray, List.getElem?_cons_zero, List.getElem?_cons_succ] at q1
        obtain ⟨gk, capk, rfl⟩ := hSr.2
        have hgk : gk = g ∨ w2.heap.size + 1 ≤ gk := by
          rcases hatr with h | ⟨b, h, hb⟩
          · exact .inl (by simpa [Value.ownBlock] using h)
          · have h : gk = b := by simpa [Value.ownBlock] using h
            omega
        by_cases hlt : j < R.length
        · obtain ⟨ad, A1, c1, z, rfl, hz, hcell, hIz⟩ := (unhide HCr).2.2.2.at_ hlt
          have hzp := unhide HP z (List.mem_of_getElem? hz)
          have hz1 : z.length ≤ m + 1 := by have := hzp.2.2.2 (by rw [unhide HL]; omega); rw [unhide HL] at this; omega
          have HI := hide (ih A1 z.length c1 _ z B gk (soFar m zs R zss j).length capk (soFar m zs R zss j) wr (hIz.argP hzp.1) hzp.1 hz1 (by omega) hSr.1 (Nat.le_trans hB (unhide HCr).2.1.gr.size) (unhide HALL j) (unhide HLEN j z hz))
          rw [← soFar_step hz] at HI
          clear hz hIz hzp hz1 hSr hatr
          go_wp2_with fail
          refine (unhide HI).mono ?_
          rintro e w5 ⟨v5, rfl, hS5, hb5, hk5, hat5⟩
          obtain ⟨x1, x2, x3, x4⟩ := unhide HCr
          have y1 := x1.trans hb5
          have y2 := x2.step hk5 (by omega)
          have y3 := x3.grown hk5.gr (fun e => by injection e with e; omega)
          have y4 := x4.aloof hk5 (by
            cases hq : (Value.slice (some ad) R.length c4).ownBlock with
            | none => exact .inl rfl
            | some q =>
              have h1 := hun q hq
              obtain ⟨vs, hown, _⟩ := x4
              have h2 := (hown.lt q hq).1
              exact .inr (fun e => by injection e with e; omega))
          have y5 : v5.ownBlock = some g ∨ ∃ b, v5.ownBlock = some b ∧ w2.heap.size + 1 ≤ b := by
            rcases hat5 with h | ⟨b, h, hb⟩
            · rcases hgk with rfl | hgk
              · exact .inl h
              · exact .inr ⟨gk, h, hgk⟩
            · exact .inr ⟨b, h, by omega⟩
          have HC5 := hide (And.intro y1 (And.intro y2 (And.intro y3 y4)))
          clear HI hb5 hk5 hat5 x1 x2 x3 x4 y1 y2 y3 y4 HCr q1 l1 hcell
          go_wp2
          go_roundw
          case rel => exact ⟨j + 1, by omega, by go_num, hS5, y5, HC5⟩
          case measure => simp [intOf]; omega
        · obtain rfl : R.length = j := by omega
          obtain ⟨x1, x2, x3, x4⟩ := unhide HCr
          have hat : (Value.slice (some ⟨gk, 0, none⟩) (soFar m zs R zss R.length).length capk).ownBlock = some g ∨ ∃ k, (Value.slice (some ⟨gk, 0, none⟩) (soFar m zs R zss R.length).length capk).ownBlock = some k ∧ w.heap.size ≤ k := by
            rcases hatr with h | ⟨b, h, hb⟩
            · exact .inl h
            · exact .inr ⟨b, h, by omega⟩
          clear x3 x4 HCr hatr
          go_wp2
          go_ret
          exact ⟨_, rfl, hSr, x1, x2, hat⟩

set_option maxHeartbeats 800000 in
theorem sroots_any (A : Option Addr) (n c B : Nat) (zs : List Int) (w : World) (h : Arg w B A n c zs) :
    Calls Try.prog 25 #[.slice A n c] w (GivesSS w (rtsR zs)) := by
  have hl := h.len
  obtain ⟨b, hb⟩ : ∃ b, isP zs = b := ⟨_, rfl⟩
  have H0 := hide (sisperm_any A n c B zs b hb w h.reads h.le h.cap)
  cases b with
  | false =>
    rw [rtsR_no (splitOK_no1 hb)]
    clear hb h hl
    go_enter Try.func25, Try.ntmps25
    go_wp2_with fail
    refine (unhide H0).mono ?_
    rintro e w1 ⟨rfl, hd⟩
    have hb1 := hd.below w.heap.size
    clear hd H0
    have hm := IntsS.made0 w1 w.heap.size hb1.size
    go_wp2
    go_ret
    exact GivesSS.mk hm (hb1.alloc hb1.size _)
  | true =>
    have h8 := isP_le hb
    have HR : Hid ((rtsF 7 zs).foldl putL [] = rtsR zs) := hide (by
      cases hs : splitOK zs with
      | true => rw [rtsR_yes hs]
      | false =>
        have : ¬ 0 < zs.length := fun h0 => by rw [splitOK_yes hb h0] at hs; cases hs
        rw [rtsR_no hs, rtsF_low (by omega)]; rfl)
    have hle := rtsF_le (m := 7) hb
    have H1 := hide (fun (w' : World) (hb' : Below w.heap.size w w') => sl6roots_any 7 A n c B zs w.heap.size w'.heap.size 0 0 [] (w'.alloc (.cells #[] 22)) ((h.below hb').below ((Below.refl _ _).alloc (Nat.le_refl _) _)) hb (by omega) (by omega) (IntsS.made0 w' w.heap.size hb'.size) (by have := hb'.size; simp; omega) (fun z hz => by cases hz) (by simp only [List.length_nil]; omega))
    clear hb h hl h8 hle
    go_enter Try.func25, Try.ntmps25
    go_wp2_with fail
    refine (unhide H0).mono ?_
    rintro e w1 ⟨rfl, hd⟩
    have hb1 := hd.below w.heap.size
    have H2 := hide (unhide H1 w1 hb1)
    clear hd H0 H1
    go_wp2_with fail
    refine (unhide H2).mono ?_
    rintro e w2 ⟨v, rfl, hS, hb2, _, _⟩
    rw [unhide HR] at hS
    clear H2
    go_wp2
    go_ret
    exact GivesSS.mk hS.1 ((hb1.alloc hb1.size _).trans hb2)
end Go.Proofs.Ytffdnpgalpcigaa


/-
  slices.SortFunc over rows of rows, under impl.comparePerms.
-/

namespace Go.Proofs.Ytffdnpgalpcigaa
set_option maxRecDepth 100000
open Go.RowKit

/-! rows, each with what it holds -/
abbrev Pr := Value × List Int
structure RowPrs (w : World) (B : Nat) (xs : List Pr) : Prop where
  row : ∀ q ∈ xs, Ints w B q.1 q.2
  away : xs.Pairwise fun a b => Away a.1 b.1
theorem RowPrs.inner {w : World} {B : Nat} {xs : List Pr} (h : RowPrs w B xs) : Inner w B (xs.map (·.1)) (xs.map (·.2)) := by
  refine ⟨by simp, fun i u zs hu hz => ?_, ?_⟩
  · rw [List.getElem?_map] at hu hz
    cases hq : xs[i]? with
    | none => rw [hq] at hu; cases hu
    | some q =>
      rw [hq] at hu hz
      cases hu; cases hz
      exact h.row q (List.mem_of_getElem? hq)
  · rw [List.pairwise_map]
    exact h.away
theorem Inner.prs {w : World} {B : Nat} {vs : List Value} {zss : List (List Int)} (h : Inner w B vs zss) : ∃ xs : List Pr, xs.map (·.1) = vs ∧ xs.map (·.2) = zss ∧ RowPrs w B xs := by
  have h1 : (vs.zip zss).map (·.1) = vs := List.map_fst_zip (by rw [h.len]; exact Nat.le_refl _)
  have h2 : (vs.zip zss).map (·.2) = zss := List.map_snd_zip (by rw [h.len]; exact Nat.le_refl _)
  refine ⟨vs.zip zss, h1, h2, fun q hq => ?_, ?_⟩
  · obtain ⟨i, hi, rfl⟩ := List.getElem_of_mem hq
    rw [List.length_zip] at hi
    exact h.row i _ _ (by rw [List.getElem_zip]; exact List.getElem?_eq_getElem (by omega)) (by rw [List.getElem_zip]; exact List.getElem?_eq_getElem (by omega))
  · have := h.away
    rw [← h1, List.pairwise_map] at this
    exact this
theorem RowPrs.sub {w : World} {B : Nat} {xs ys : List Pr} (h : RowPrs w B xs) (hs : ys.Sublist xs) : RowPrs w B ys := ⟨fun q hq => h.row q (hs.subset hq), h.away.sublist hs⟩
theorem RowPrs.perm {w : World} {B : Nat} {xs ys : List Pr} (h : RowPrs w B xs) (hp : ys.Perm xs) : RowPrs w B ys :=
  ⟨fun q hq => h.row q (hp.subset hq), (hp.pairwise_iff (fun {_ _} h => h.symm)).2 h.away⟩
theorem RowPrs.keepI {w w' : World} {B : Nat} {xs : List Pr} (h : RowPrs w B xs) (hk : KeepI w w') : RowPrs w' B xs := ⟨fun q hq => (h.row q hq).keepI hk, h.away⟩

/-! the sort -/
structure El (w : World) (B : Nat) where
  q : Pr
  row : Ints w B q.1 q.2
  perm : isP q.2 = true
def El.enc {w : World} {B : Nat} (x : El w B) : Value := x.q.1
def El.cf {w : World} {B : Nat} (x y : El w B) : Int := cmpV x.q.2 y.q.2
theorem els {w : World} {B : Nat} : ∀ xs : List Pr, (∀ q ∈ xs, Ints w B q.1 q.2 ∧ isP q.2 = true) → ∃ ds : List (El w B), ds.map (·.q) = xs
  | [], _ => ⟨[], rfl⟩
  | q :: xs, h => by
    obtain ⟨ds, hd⟩ := els xs fun q hq => h q (by simp [hq])
    exact ⟨⟨q, (h q (by simp)).1, (h q (by simp)).2⟩ :: ds, by rw [List.map_cons, hd]⟩
theorem El.one {w : World} {B : Nat} : OneCell (El.enc (w := w) (B := B)) := fun x => by
  obtain ⟨A, c, h⟩ := x.row.slice
  unfold El.enc
  rw [h]; rfl
theorem El.swo {w : World} {B : Nat} : Sort.SWO (ltOf (El.cf (w := w) (B := B))) where
  irrefl x := by unfold ltOf El.cf; rw [cmpV_befL]; exact befL_irrefl _
  trans x y z h1 h2 := by unfold ltOf El.cf at *; rw [cmpV_befL] at *; exact befL_trans h1 h2
  ntrans x y z h1 h2 := by
    unfold ltOf El.cf at *
    rw [cmpV_befL] at *
    cases h3 : befL x.q.2 z.q.2 with
    | false => rfl
    | true =>
      have h4 := befL_le_lt h1 h3
      rw [h2] at h4; cases h4
theorem take_put {α : Type} [Inhabited α] (enc : α → Value) (cur : Array Value) (d : Array α) (h : d.size ≤ cur.size) : (Sort.putCells enc 0 d cur).toList.take d.size = d.toList.map enc := by
  apply List.ext_getElem?
  intro j
  by_cases hj : j < d.size
  · rw [List.getElem?_take_of_lt hj, Array.getElem?_toList]
    simp [Sort.putCells, hj, show j < cur.size by omega]
  · rw [List.getElem?_take_eq_none (by omega), List.getElem?_eq_none (by simp; omega)]
theorem heap_put {α : Type} [Inhabited α] (enc : α → Value) {w : World} {g m : Nat} {os : Array Obj} {cur : Array Value} {e : TypeId} {fr : Nat × Nat} (d : Array α) (hb : w.heap[g]? = some (.cells cur e fr)) :
    (sortWorld enc w g 0 m d os).heap[g]? = some (.cells (Sort.putCells enc 0 d cur) e fr) := by
  have hg : g < w.heap.size := (Array.getElem?_eq_some_iff.1 hb).1
  unfold sortWorld
  rw [Sort.heap_grow_old _ _ (by simpa using hg)]
  simp [Sort.putRow, Sort.mapBlock, Sort.ahead, Array.getElem?_modify, hb, Sort.onCells]
theorem heap_far {α : Type} [Inhabited α] (enc : α → Value) {w : World} {g m : Nat} {os : Array Obj} (d : Array α) {i : Nat} (hi : i < w.heap.size) (hne : g ≠ i) : (sortWorld enc w g 0 m d os).heap[i]? = w.heap[i]? := by
  unfold sortWorld
  rw [Sort.heap_grow_old _ _ (by simpa using hi)]
  simp [Sort.putRow, Sort.mapBlock, Sort.ahead, Array.getElem?_modify, hne]
theorem size_sorted {α : Type} [Inhabited α] (enc : α → Value) (w : World) (g m : Nat) (os : Array Obj) (d : Array α) : w.heap.size ≤ (sortWorld enc w g 0 m d os).heap.size := by unfold sortWorld; simp
theorem grown_sorted {α : Type} [Inhabited α] (enc : α → Value) (w : World) (g m : Nat) (os : Array Obj) (d : Array α) : w.grownBy (sortWorld enc w g 0 m d os) (some g) :=
  ⟨rfl, rfl, rfl, size_sorted enc w g m os d, fun _ hk hne => heap_far enc d hk fun e => hne (by rw [e])⟩
theorem own_sorted {α : Type} [Inhabited α] (enc : α → Value) {w : World} {B g n cap m : Nat} {e : TypeId} {os : Array Obj} {xs : List Value} (d : Array α) (hd : d.size = n) (h : w.ownsRow B e 1 (.slice (some ⟨g, 0, none⟩) n cap) n xs) :
    (sortWorld enc w g 0 m d os).ownsRow B e 1 (.slice (some ⟨g, 0, none⟩) n cap) n (d.toList.map enc) := by
  refine ⟨by simp [hd], ?_⟩
  rcases h.2 with ⟨hv, _⟩ | ⟨g', cap', cur, hv, hb, hg, hnc, hc, hsz, ht⟩
  · cases hv
  · injection hv with h1 h2 h3
    injection h1 with h1
    injection h1 with h1
    subst h1; subst h3
    exact .inr ⟨g, cap, _, rfl, hb, heap_put enc d hg, hnc, hc, by simpa [Sort.putCells] using hsz, by rw [Nat.mul_one, ← hd]; exact take_put enc cur d (by omega)⟩
theorem holds_own {α : Type} [Inhabited α] (enc : α → Value) {w : World} {B g n cap : Nat} {e : TypeId} (ds : List α) (h : w.ownsRow B e 1 (.slice (some ⟨g, 0, none⟩) n cap) n (ds.map enc)) : Sort.Holds enc w g 0 ds.toArray := by
  have hl : ds.length = n := by simpa using h.1
  intro j hj
  have hj' : j < ds.length := by simpa using hj
  refine ⟨?_, by rw [Nat.zero_add]; exact h.frozenAt j⟩
  rw [Nat.zero_add, h.cellAt j (by omega)]
  simp [hj']

/-- A row of rows, sorted: the same rows, in order. -/
def Sorted (w : World) (B g n cap : Nat) (xs : List Pr) (e : Ending) (w' : World) : Prop :=
  e = .returned (.tuple #[]) ∧ ∃ ys : List Pr, ys.Perm xs ∧ (∀ (i j : Nat) (x y : Pr), i < j → ys[i]? = some x → ys[j]? = some y → befL y.2 x.2 = false) ∧
    w'.ownsRow B 22 1 (.slice (some ⟨g, 0, none⟩) n cap) n (ys.map (·.1)) ∧ w.grownBy w' (some g)
theorem sort_any (w : World) (B g n cap : Nat) (xs : List Pr) (hown : w.ownsRow B 22 1 (.slice (some ⟨g, 0, none⟩) n cap) n (xs.map (·.1))) (hx : RowPrs w B xs) (hP : ∀ q ∈ xs, isP q.2 = true) (hn : n ≤ 1048576) :
    Calls Try.prog 74 #[.slice (some ⟨g, 0, none⟩) n cap, .func (.func 75) #[] #[]] w (Sorted w B g n cap xs) := by
  have hl : xs.length = n := by simpa using hown.1
  cases xs with
  | nil =>
    obtain rfl : n = 0 := by simpa using hl.symm
    refine (Try.slices_SortFunc_none (α := Unit) _ _ _ w).mono ?_
    rintro e w' ⟨rfl, rfl⟩
    exact ⟨rfl, [], List.Perm.refl _, fun i j x y _ h => by simp at h, hown, World.grownBy.refl _ _⟩
  | cons q xs =>
    obtain ⟨ds, hds⟩ := els (q :: xs) fun p hp => ⟨hx.row p hp, hP p hp⟩
    have hq := hx.row q (by simp)
    have hqP := hP q (by simp)
    letI : Inhabited (El w B) := ⟨⟨q, hq, hqP⟩⟩
    have henc : ds.map El.enc = (q :: xs).map (·.1) := by rw [← hds, List.map_map]; rfl
    have hdl : ds.length = n := by rw [← hl, ← hds, List.length_map]
    have hg := (hown.lt g rfl).2
    have eg : ∀ args w, (callFunc 75 args).run Try.prog w = .ok (.enter 75 args) w := enters_of Try.func75 (by kernel_rfl) rfl
    have hcmp : CmpLays1 Try.prog 75 #[] (El.enc (w := w) (B := B)) El.cf g 0 ds.toArray.size w := fun m os dk hs x y => by
      have hk : KeepI w (sortWorld El.enc w g 0 m dk os) := by
        have hgr := grown_sorted (El.enc (w := w) (B := B)) w g m os dk
        exact KeepI.of_grown hown hgr
      obtain ⟨A1, c1, h1⟩ := x.row.slice
      obtain ⟨A2, c2, h2⟩ := y.row.slice
      have i1 := x.row.keepI hk
      have i2 := y.row.keepI hk
      show Calls _ _ #[x.q.1, y.q.1] _ _
      rw [h1] at i1 ⊢
      rw [h2] at i2 ⊢
      exact comparePerms_any A1 A2 _ c1 _ _ c2 _ x.q.2 y.q.2 _ (i1.argP x.perm) (i2.argP y.perm)
    have hcon := Try.slices_SortFunc (El.enc (w := w) (B := B)) El.one El.cf El.swo 75 #[] g 0 cap ds.toArray w eg hcmp (holds_own El.enc ds (by rw [henc]; exact hown)) hg (by simp; omega)
    rw [show ds.toArray.size = n by simpa using hdl] at hcon
    refine hcon.mono ?_
    rintro e w' ⟨rfl, d', m, os, hp, hs, rfl⟩
    obtain ⟨p1, _, p3⟩ := hp
    have hd' : d'.size = n := by rw [p1]; simpa using hdl
    have hperm : d'.toList.Perm ds := by
      have h1 : d'.extract 0 n = d' := by rw [← hd']; simp
      have h2 : ds.toArray.extract 0 n = ds.toArray := by rw [← hdl]; simp
      rw [h1, h2] at p3
      simpa using p3
    refine ⟨rfl, d'.toList.map (·.q), by rw [← hds]; exact hperm.map _, fun i j x y hij hi hj => ?_, ?_, grown_sorted _ _ _ _ _ _⟩
    · rw [List.getElem?_map] at hi hj
      have hjn : j < n := by
        cases hq : d'.toList[j]? with
        | none => rw [hq] at hj; cases hj
        | some u => have := (List.getElem?_eq_some_iff.1 hq).1; simpa [hd'] using this
      have := hs i j (Nat.zero_le _) hij hjn
      unfold ltOf El.cf at this
      rw [cmpV_befL] at this
      rw [getElem!_pos d' i (by omega), getElem!_pos d' j (by omega)] at this
      rw [List.getElem?_eq_getElem (by simp; omega)] at hi hj
      simp at hi hj
      subst hi; subst hj
      exact this
    · rw [List.map_map]
      exact own_sorted El.enc d' hd' hown
end Go.Proofs.Ytffdnpgalpcigaa


/-
  slices.CompactFunc over rows of rows, under slices.Equal.
-/

namespace Go.Proofs.Ytffdnpgalpcigaa
set_option maxRecDepth 100000
open Go.RowKit

/-! plain -/
theorem keepN_le {α : Type} {f : α → List Int} (xs : List α) (k : Nat) : (keepN f xs k).length ≤ k := by
  have h := (keepN_sub (f := f) xs k).length_le
  rw [List.length_take] at h
  omega
/-- The cells in the midst of the work: what was kept, then what stood there. -/
def midV (xs : List Pr) (j : Nat) : List Value := (keepN (·.2) xs j).map (·.1) ++ (xs.map (·.1)).drop (keepN (·.2) xs j).length
theorem midV_len {xs : List Pr} {j : Nat} (h : j ≤ xs.length) : (midV xs j).length = xs.length := by
  have := keepN_le (f := fun q : Pr => q.2) xs j
  unfold midV
  rw [List.length_append, List.length_drop, List.length_map, List.length_map]
  omega
theorem midV_at {xs : List Pr} {j i : Nat} {q : Pr} (h : (keepN (·.2) xs j).length ≤ i) (hq : xs[i]? = some q) : (midV xs j)[i]? = some q.1 := by
  unfold midV
  rw [List.getElem?_append_right (by rw [List.length_map]; exact h), List.length_map, List.getElem?_drop, show (keepN (·.2) xs j).length + (i - (keepN (·.2) xs j).length) = i by omega, List.getElem?_map, hq]
  rfl
theorem midV_same {xs : List Pr} {k : Nat} {x y : Pr} (h : xs[k]? = some x) (hk : 0 < k) (hy : xs[k - 1]? = some y) (he : y.2 = x.2) : midV xs (k + 1) = midV xs k := by
  unfold midV
  rw [keepN_same (f := fun q : Pr => q.2) h hk hy he]
theorem midV_new {xs : List Pr} {k : Nat} {x y : Pr} (h : xs[k]? = some x) (hy : xs[k - 1]? = some y) (he : y.2 ≠ x.2) : midV xs (k + 1) = (midV xs k).set (keepN (·.2) xs k).length x.1 := by
  have hk : k < xs.length := (List.getElem?_eq_some_iff.1 h).1
  have hle := keepN_le (f := fun q : Pr => q.2) xs k
  unfold midV
  rw [keepN_new (f := fun q : Pr => q.2) h hy he, List.map_append, List.length_append, List.length_singleton, List.map_singleton]
  rw [List.set_append_right _ _ (by rw [List.length_map]; exact Nat.le_refl _), List.length_map, Nat.sub_self]
  rw [List.drop_eq_getElem_cons (show (keepN (fun q : Pr => q.2) xs k).length < (xs.map (·.1)).length by rw [List.length_map]; omega), List.set_cons_zero]
  simp
theorem keepN_all {xs : List Pr} {k : Nat} {x y : Pr} (h : keepN (·.2) xs k = xs.take k) (hx : xs[k]? = some x) (hy : xs[k - 1]? = some y) (he : y.2 ≠ x.2) : keepN (·.2) xs (k + 1) = xs.take (k + 1) := by
  rw [keepN_new (f := fun q : Pr => q.2) hx hy he, h, List.take_add_one, hx]
  rfl
theorem keepN_first {xs : List Pr} (h : 0 < xs.length) : keepN (·.2) xs 1 = xs.take 1 := by
  rw [keepN_one (List.getElem?_eq_getElem h), List.take_add_one, List.getElem?_eq_getElem h]
  rfl
theorem midV_take {xs : List Pr} {k : Nat} (h : keepN (·.2) xs k = xs.take k) : midV xs k = xs.map (·.1) := by
  unfold midV
  rw [h, List.length_take]
  by_cases hk : k ≤ xs.length
  · rw [Nat.min_eq_left hk, List.map_take, List.take_append_drop]
  · rw [Nat.min_eq_right (by omega), List.take_of_length_le (by omega), List.drop_of_length_le (by rw [List.length_map]; exact Nat.le_refl _), List.append_nil]

/-! memory -/
theorem own_cells {B g n cap : Nat} {e : TypeId} : ∀ (vs : List Value) (o : Nat) (w : World) (xs : List Value), w.ownsRow B e 1 (.slice (some ⟨g, 0, none⟩) n cap) n xs →
    ∃ ys, (w.setCells g o vs).ownsRow B e 1 (.slice (some ⟨g, 0, none⟩) n cap) n ys ∧ ys.take o = xs.take o ∧ w.grownBy (w.setCells g o vs) (some g)
  | [], o, w, xs, h => ⟨xs, h, rfl, World.grownBy.refl _ _⟩
  | v :: vs, o, w, xs, h => by
    have h1 := h.stored o v
    obtain ⟨ys, h2, h3, h4⟩ := own_cells vs (o + 1) _ _ h1.1
    refine ⟨ys, h2, ?_, grown_then h1.2 h4⟩
    have := congrArg (List.take o) h3
    rw [List.take_take, List.take_take, Nat.min_eq_left (by omega)] at this
    rw [this, List.take_set_of_le (Nat.le_refl _)]
theorem Arg.drewN {w : World} {B n c : Nat} {A : Option Addr} {zs : List Int} (h : Arg w B A n c zs) (k : Nat) : Arg (w.drewN k) B A n c zs := ⟨h.reads.drewN k, h.under, h.le, h.cap, h.small, h.nil⟩
theorem decide_same {p q : List Int} (h : decide (p = q) = true) : q = p := (of_decide_eq_true h).symm
theorem decide_diff {p q : List Int} (h : decide (p = q) = false) : q ≠ p := fun e => of_decide_eq_false h e.symm
/-- Where a row stands in the midst of CompactFunc. -/
structure Mid (w wr : World) (B g n cap : Nat) (xs : List Pr) (j : Nat) : Prop where
  own : wr.ownsRow B 22 1 (.slice (some ⟨g, 0, none⟩) n cap) n (midV xs j)
  grown : w.grownBy wr (some g)
theorem Mid.cell {w wr : World} {B g n cap j i : Nat} {xs : List Pr} {q : Pr} (h : Mid w wr B g n cap xs j) (hi : (keepN (·.2) xs j).length ≤ i) (hn : i < n) (hq : xs[i]? = some q) : wr.cell? ⟨g, i, none⟩ = some q.1 := by
  rw [h.own.cellAt i (by omega)]
  exact midV_at hi hq
theorem Mid.drewN {w wr : World} {B g n cap j : Nat} {xs : List Pr} (h : Mid w wr B g n cap xs j) (k : Nat) : Mid w (wr.drewN k) B g n cap xs j := ⟨own_below h.own ((Drew.refl wr).more k |>.below _), grown_then h.grown (grown_of_below ((Drew.refl wr).more k |>.below _) _)⟩

def Compacted (w : World) (B g cap : Nat) (xs : List Pr) (e : Ending) (w' : World) : Prop :=
  e = .returned (.slice (some ⟨g, 0, none⟩) (keepN (·.2) xs xs.length).length cap) ∧ w'.ownsRow B 22 1 (.slice (some ⟨g, 0, none⟩) (keepN (·.2) xs xs.length).length cap) (keepN (·.2) xs xs.length).length ((keepN (·.2) xs xs.length).map (·.1)) ∧ w.grownBy w' (some g)

set_option maxHeartbeats 1600000 in
theorem compact_any (w : World) (B g n cap : Nat) (xs : List Pr) (hown : w.ownsRow B 22 1 (.slice (some ⟨g, 0, none⟩) n cap) n (xs.map (·.1))) (hx : RowPrs w B xs) (hP : ∀ q ∈ xs, isP q.2 = true) (hn : n ≤ 1048576) (hnc : n ≤ cap) :
    Calls Try.prog 76 #[.slice (some ⟨g, 0, none⟩) n cap, .func (.func 45) #[] #[]] w (Compacted w B g cap xs) := by
  have hl : xs.length = n := by simpa using hown.1
  by_cases h2 : n < 2
  · have hk : keepN (·.2) xs xs.length = xs := by
      rw [hl]
      by_cases h0 : n = 0
      · subst h0
        obtain rfl := List.eq_nil_of_length_eq_zero hl
        rfl
      · obtain rfl : n = 1 := by omega
        rw [keepN_first (by omega), List.take_of_length_le (by omega)]
    have hfin : Compacted w B g cap xs (.returned (.slice (some ⟨g, 0, none⟩) n cap)) w := by
      unfold Compacted
      rw [hk, hl]
      exact ⟨rfl, hown, World.grownBy.refl _ _⟩
    clear hk hown hx hP
    go_enter Try.func76, Try.ntmps76
    go_wp2
    go_ret
    exact hfin
  · have HL := hide hl
    have HX := hide hx
    have HP := hide hP
    have hstart : Mid w w B g n cap xs 1 := ⟨by rw [midV_take (keepN_first (by omega))]; exact hown, World.grownBy.refl _ _⟩
    have HOWN := hide hown
    clear hl hx hP hown
    go_enter Try.func76, Try.ntmps76
    go_wp2
    go_loopw [5] (fun i wr => ∃ k : Nat, 1 ≤ k ∧ k ≤ n ∧ i = .int .i64 k ∧ Mid w wr B g n cap xs k ∧ Hid (keepN (·.2) xs k = xs.take k)) (fun i _ => n - (intOf i).toNat)
    case atStart => exact ⟨1, Nat.le_refl _, by omega, rfl, hstart, by exact keepN_first (by rw [unhide HL]; omega)⟩
    case round =>
      obtain ⟨k, hk1, hk, rfl, hM, hKeep⟩ := hrel
      clear hstart
      by_cases hlt : k < n
      · obtain ⟨j, rfl⟩ : ∃ j, k = j + 1 := ⟨k - 1, by omega⟩
        have hkl := keepN_le (f := fun q : Pr => q.2) xs (j + 1)
        have hkj : (keepN (·.2) xs (j + 1)).length = j + 1 := by rw [unhide hKeep, List.length_take, unhide HL]; omega
        have hqx : xs[j + 1]? = some (xs[j + 1]'(by rw [unhide HL]; exact hlt)) := List.getElem?_eq_getElem _
        have hqy : xs[j]? = some (xs[j]'(by rw [unhide HL]; omega)) := List.getElem?_eq_getElem _
        generalize xs[j + 1]'(by rw [unhide HL]; exact hlt) = x at hqx
        generalize xs[j]'(by rw [unhide HL]; omega) = y at hqy
        obtain ⟨vx, px⟩ := x
        obtain ⟨vy, py⟩ := y
        have hmv := midV_take (unhide hKeep)
        have hcx : wr.cell? ⟨g, j + 1, none⟩ = some vx := by rw [hM.own.cellAt (j + 1) (by omega), hmv, List.getElem?_map, hqx]; rfl
        have hcy : wr.cell? ⟨g, j, none⟩ = some vy := by rw [hM.own.cellAt j (by omega), hmv, List.getElem?_map, hqy]; rfl
        have hkI : KeepI w wr := by
          have h0 := KeepI.of_grown (w' := wr) (v := .slice (some ⟨g, 0, none⟩) n cap) (unhide HOWN) hM.grown
          exact h0
        have ix : Ints wr B vx px := ((unhide HX).row _ (List.mem_of_getElem? hqx)).keepI hkI
        have iy : Ints wr B vy py := ((unhide HX).row _ (List.mem_of_getElem? hqy)).keepI hkI
        have hxP : isP px = true := unhide HP _ (List.mem_of_getElem? hqx)
        have hyP : isP py = true := unhide HP _ (List.mem_of_getElem? hqy)
        obtain ⟨A1, c1, rfl⟩ := ix.slice
        obtain ⟨A2, c2, rfl⟩ := iy.slice
        obtain ⟨b, hb⟩ : ∃ b, decide (px = py) = b := ⟨_, rfl⟩
        have HE := hide (fun k => eqsl_any A1 A2 _ c1 _ _ c2 _ px py b hb (wr.drewN k) ((ix.argP hxP).drewN k) ((iy.argP hyP).drewN k))
        have HM := hide hM
        have HC := hide (And.intro hqx hqy)
        have HKJ := hide hkj
        have HMV := hide hmv
        clear hM hmv hkI ix iy hxP hyP hkl hkj hqx hqy
        have hbd0 : (0 : Int) ≤ (j : Int) + 1 := by omega
        have hbd1 : (j : Int) + 1 < (n : Int) := by omega
        have hbd2 : (j : Int) < (n : Int) := by omega
        have hwj : IntKind.i64.wrap (j : Int) = (j : Int) := by rw [IntKind.wrap_i64]; omega
        cases b with
        | false =>
          have hnext := hide (keepN_all (unhide hKeep) (unhide HC).1 (unhide HC).2 (decide_diff hb))
          clear hb hKeep
          go_wp2
          go_quiet ((go_at_call 45; exact Calls.quiet_of (unhide HE _)))
          go_wp2
          go_roundw
          case rel => exact ⟨j + 1 + 1, by omega, by omega, by go_num, ⟨by rw [(midV_take (unhide hnext)).trans (unhide HMV).symm]; exact ((unhide HM).drewN nq).own, ((unhide HM).drewN _).grown⟩, hnext⟩
          case measure => simp [intOf]; omega
        | true =>
          have hsm := decide_same hb
          have hkn := keepN_same (f := fun q : Pr => q.2) (unhide HC).1 (by omega) (unhide HC).2 hsm
          have hmn := midV_same (unhide HC).1 (by omega) (unhide HC).2 hsm
          have HK2 := hide (show (keepN (·.2) xs (j + 1 + 1)).length = j + 1 from (congrArg List.length hkn).trans (unhide HKJ))
          have HM2 := hide (fun k => (show Mid w (wr.drewN k) B g n cap xs (j + 1 + 1) from ⟨by rw [hmn]; exact ((unhide HM).drewN k).own, ((unhide HM).drewN k).grown⟩))
          have hcne : ¬ cap = j + 1 := by omega
          clear hb hKeep hsm hkn hmn HM HMV
          go_wp2
          go_quiet ((go_at_call 45; exact Calls.quiet_of (unhide HE _)))
          go_wp2
          obtain ⟨W, hW⟩ : ∃ W, W = wr.drewN nq := ⟨_, rfl⟩
          have HM3 : Mid w W B g n cap xs (j + 1 + 1) := by rw [hW]; exact unhide HM2 nq
          rw [← hW]
          clear HM2 HE HC hcx hcy hW
          rw [show ((j + 1 : Nat) : Int) = (j : Int) + 1 by omega]
          go_loopw [5, 7] (fun kv iv wr2 => ∃ k2 m : Nat, 1 ≤ k2 ∧ j + 1 + k2 ≤ n ∧ m < j + 1 + k2 ∧ kv = .int .i64 m ∧ iv = .int .i64 k2 ∧ Mid w wr2 B g n cap xs (j + 1 + k2) ∧ Hid ((keepN (·.2) xs (j + 1 + k2)).length = m)) (fun _ iv _ => n - (intOf iv).toNat)
          case atStart => exact ⟨1, j + 1, Nat.le_refl _, by omega, by omega, by go_num, by go_num, HM3, HK2⟩
          case round =>
            obtain ⟨k2, m, hk21, hk2n, hmk, rfl, rfl, hM, hm⟩ := hrel
            clear HM3 HK2
            by_cases hlt2 : j + 1 + k2 < n
            · obtain ⟨i, rfl⟩ : ∃ i, k2 = i + 1 := ⟨k2 - 1, by omega⟩
              obtain ⟨q, hq⟩ : ∃ q, q = j + 1 + i := ⟨_, rfl⟩
              have hq1 : j + 1 + (i + 1) = q + 1 := by omega
              rw [hq1] at hM hm
              have hqx : xs[q + 1]? = some (xs[q + 1]'(by rw [unhide HL]; omega)) := List.getElem?_eq_getElem _
              have hqy : xs[q]? = some (xs[q]'(by rw [unhide HL]; omega)) := List.getElem?_eq_getElem _
              generalize xs[q + 1]'(by rw [unhide HL]; omega) = x at hqx
              generalize xs[q]'(by rw [unhide HL]; omega) = y at hqy
              obtain ⟨vx, px⟩ := x
              obtain ⟨vy, py⟩ := y
              have hcx := hM.cell (by rw [unhide hm]; omega) (by omega) hqx
              have hcy := hM.cell (by rw [unhide hm]; omega) (by omega) hqy
              rw [show q + 1 = j + 1 + (i + 1) by omega] at hcx
              rw [hq] at hcy
              have hkI : KeepI w wr := KeepI.of_grown (w' := wr) (v := .slice (some ⟨g, 0, none⟩) n cap) (unhide HOWN) hM.grown
              have ix : Ints wr B vx px := ((unhide HX).row _ (List.mem_of_getElem? hqx)).keepI hkI
              have iy : Ints wr B vy py := ((unhide HX).row _ (List.mem_of_getElem? hqy)).keepI hkI
              have hxP : isP px = true := unhide HP _ (List.mem_of_getElem? hqx)
              have hyP : isP py = true := unhide HP _ (List.mem_of_getElem? hqy)
              obtain ⟨A1, c1, rfl⟩ := ix.slice
              obtain ⟨A2, c2, rfl⟩ := iy.slice
              obtain ⟨b, hb⟩ : ∃ b, decide (px = py) = b := ⟨_, rfl⟩
              have HE := hide (fun k => eqsl_any A1 A2 _ c1 _ _ c2 _ px py b hb (wr.drewN k) ((ix.argP hxP).drewN k) ((iy.argP hyP).drewN k))
              have HM := hide hM
              have HC := hide (And.intro hqx hqy)
              have HQ2 : Hid (j + 1 + (i + 1 + 1) = q + 1 + 1) := (by omega : j + 1 + (i + 1 + 1) = q + 1 + 1)
              have HQ := hide hq
              clear hM hkI ix iy hxP hyP hqx hqy hq hq1
              have hbi0 : (0 : Int) ≤ (i : Int) + 1 := by omega
              have hbi1 : (i : Int) + 1 < ((n - (j + 1) : Nat) : Int) := by omega
              have hbi2 : (i : Int) < ((n - (j + 1) : Nat) : Int) := by omega
              have hwi : IntKind.i64.wrap (i : Int) = (i : Int) := by rw [IntKind.wrap_i64]; omega
              cases b with
              | true =>
                have hsm := decide_same hb
                have hkn := keepN_same (f := fun q : Pr => q.2) (unhide HC).1 (by omega) (unhide HC).2 hsm
                have hmn := midV_same (unhide HC).1 (by omega) (unhide HC).2 hsm
                have HK2 := hide ((congrArg List.length hkn).trans (unhide hm))
                have HM2 := hide (fun k => (show Mid w (wr.drewN k) B g n cap xs (q + 1 + 1) from ⟨by rw [hmn]; exact ((unhide HM).drewN k).own, ((unhide HM).drewN k).grown⟩))
                clear hb hsm hkn hmn HM hm
                go_wp2
                go_quiet ((go_at_call 45; exact Calls.quiet_of (unhide HE _)))
                go_wp2
                go_roundw
                case rel => exact ⟨i + 1 + 1, m, by omega, by omega, by omega, rfl, by go_num, by rw [unhide HQ2]; exact unhide HM2 _, by rw [unhide HQ2]; exact HK2⟩
                case measure => simp [intOf]; omega
              | false =>
                have hmn := midV_new (unhide HC).1 (unhide HC).2 (decide_diff hb)
                have hkn := keepN_new (f := fun q : Pr => q.2) (unhide HC).1 (unhide HC).2 (decide_diff hb)
                have HK2 : Hid ((keepN (·.2) xs (q + 1 + 1)).length = m + 1) := hide (by
                  have := congrArg List.length hkn
                  rw [List.length_append, List.length_singleton, unhide hm] at this
                  exact this)
                have hmn2 : n - m ≠ 0 := by omega
                obtain ⟨old, hold⟩ : ∃ old, wr.cell? ⟨g, m, none⟩ = some old := ⟨_, by rw [(unhide HM).own.cellAt m (by omega)]; exact List.getElem?_eq_getElem (by rw [midV_len (by rw [unhide HL]; have := unhide HQ; omega), unhide HL]; omega)⟩
                have hfz := (unhide HM).own.frozenAt m
                have HM2 := hide (fun k => (show Mid w ((wr.drewN k).setCell ⟨g, m, none⟩ (.slice A1 px.length c1)) B g n cap xs (q + 1 + 1) from ⟨by
                  rw [hmn, unhide hm]
                  exact (((unhide HM).drewN k).own.stored m _).1, grown_then ((unhide HM).drewN k).grown (((unhide HM).drewN k).own.stored m _).2⟩))
                have hbm0 : (m : Int) < (n : Int) := by omega
                clear hb hkn hmn HM hm
                go_wp2
                go_quiet ((go_at_call 45; exact Calls.quiet_of (unhide HE _)))
                go_wp2
                go_roundw
                case rel => exact ⟨i + 1 + 1, m + 1, by omega, by omega, by omega, by go_num, by go_num, by rw [unhide HQ2]; exact unhide HM2 _, by rw [unhide HQ2]; exact HK2⟩
                case measure => simp [intOf]; omega
            · have hend : j + 1 + k2 = n := by omega
              rw [hend] at hM hm
              have hmn : m < n := by omega
              have hmc : ¬ cap = m := by omega
              have hbm0 : (m : Int) ≤ (cap : Int) := by omega
              have hbm1 : (m : Int) ≤ (n : Int) := by omega
              have hcl : ∀ ty, (Builtin.clear_ #[23] ty #[.slice (some ⟨g, m, none⟩) (n - m) (cap - m)]).run Try.prog wr = .ok (.tuple #[]) (wr.setCells g m (List.replicate (n - m) (.slice none 0 0))) :=
                fun ty => Lib.run_clear_slice wr _ _ ty _ Try.underlying23 Try.zeroValue22 rfl rfl g m _ _ (by omega) (fun i hi => by rw [hM.own.cellAt (m + i) (by omega), List.getElem?_eq_getElem (by rw [midV_len (by rw [unhide HL]; exact Nat.le_refl _), unhide HL]; omega)]; rfl) (fun i _ => hM.own.frozenAt (m + i))
              obtain ⟨ys, o1, o2, o3⟩ := own_cells (List.replicate (n - m) (.slice none 0 0)) m wr _ hM.own
              have hfin : Compacted w B g cap xs (.returned (.slice (some ⟨g, 0, none⟩) m cap)) (wr.setCells g m (List.replicate (n - m) (.slice none 0 0))) := by
                have h := own_cut o1 (show m ≤ n by omega)
                have h4 : ys.take m = (keepN (·.2) xs n).map (·.1) := by
                  rw [o2]
                  unfold midV
                  rw [List.take_append_of_le_length (by rw [List.length_map, unhide hm]; exact Nat.le_refl _), List.take_of_length_le (by rw [List.length_map, unhide hm]; exact Nat.le_refl _)]
                rw [h4] at h
                unfold Compacted
                rw [unhide HL, unhide hm]
                exact ⟨rfl, h, grown_then hM.grown o3⟩
              clear hM hm o1 o2 o3 HKJ
              go_wp2
              go_ret
              exact hfin
      · obtain rfl : n = k := by omega
        have hfin : Compacted w B g cap xs (.returned (.slice (some ⟨g, 0, none⟩) n cap)) wr := by
          have hk := unhide hKeep
          have hle := unhide HL
          have h := hM.own
          rw [midV_take hk] at h
          unfold Compacted
          rw [hle, hk, List.take_of_length_le (by omega), hle]
          exact ⟨rfl, h, hM.grown⟩
        clear hM hKeep
        go_wp2
        go_ret
        exact hfin
end Go.Proofs.Ytffdnpgalpcigaa


/-
  impl.OrderPerms where its list reads place by place, by its contract.
-/

namespace Go.Proofs.Ytffdnpgalpcigaa
set_option maxRecDepth 100000
open Go.RowKit

/-- What is in order and has each once is known by what it has. -/
theorem kept_ord {zss : List (List Int)} {xs ys : List Pr} (hall : allP zss = true) (hx : xs.map (·.2) = zss) (hp : ys.Perm xs) (hs : ∀ (i j : Nat) (x y : Pr), i < j → ys[i]? = some x → ys[j]? = some y → befL y.2 x.2 = false) :
    (keepN (·.2) ys ys.length).map (·.2) = ordR zss := by
  obtain ⟨h1, h2⟩ := keepN_sorted (f := fun q : Pr => q.2) hs ys.length (Nat.le_refl _)
  rw [ordR_yes hall]
  refine asc_unique h1 (ordL_asc _ _) fun z => ?_
  rw [h2 z, ordL_mem, List.take_length, List.take_length, ← hx]
  exact (hp.map _).mem_iff

set_option maxHeartbeats 1600000 in
theorem iorda_any (A : Option Addr) (n c : Nat) (zss : List (List Int)) (w : World) (hS : AtS w A n zss) (hn : n ≤ 1048576) :
    Calls Try.prog 54 #[.slice A n c] w (GivesSS w (ordR zss)) := by
  obtain ⟨i0, hi, hz0, hz1, hz2⟩ := info_parts rowsInfo1
  have hl := hS.1
  have HL := hide hl
  clear hl
  go_enter Try.func54, Try.ntmps54
  go_wp2_with (first
    | (at_make; refine wpList_make_full _ rfl (.tmp 7) (.tmp 7) 23 rfl w.heap.size 22 i0 (.slice none 0 0) 1 Try.underlying23 hi hz0 hz1 _ _ _ _ n rfl rfl (by first | rfl | omega) (by first | rfl | omega) (by rw [hz2]; omega) (by unfold maxLen; omega) (Nat.le_refl _) ?_; intro w1 hown hg))
  have hF := Filled.start (zss := zss) (unhide HL) (Below.refl w.heap.size w) hown hg
  clear hown hg
  obtain ⟨g, hgw⟩ : ∃ g, g = w.heap.size := ⟨_, rfl⟩
  rw [← hgw] at hF ⊢
  clear hgw
  go_loopw [4, 5, 11] (fun _ _ i wr => ∃ k : Nat, k ≤ n ∧ i = .int .i64 k ∧ Filled w wr g n zss k ∧ Hid (∀ z ∈ zss.take k, isP z = true)) (fun _ _ i _ => n - (intOf i).toNat)
  case atStart => exact ⟨0, Nat.zero_le _, rfl, hF, fun z hz => by simp at hz⟩
  case round =>
    obtain ⟨k, hk, rfl, hF, hP⟩ := hrel
    by_cases hlt : k < n
    · obtain ⟨ad, A1, c1, z, rfl, hz, hcell, hA⟩ := hS.2 wr hF.below k hlt
      obtain ⟨b, hb⟩ : ∃ b, isP z = b := ⟨_, rfl⟩
      have H1 := hide (iisperm_any A1 z.length c1 wr.heap.size z b hb wr hA.reads hA.under hA.le hA.small)
      cases b with
      | false =>
        have hr := hide (ordR_no (allP_no (List.mem_of_getElem? hz) hb))
        have hb0 := hF.below
        clear hz hb hA hF hP
        go_wp2_with fail
        refine (unhide H1).mono ?_
        rintro e w2 ⟨rfl, hb⟩
        have hb2 := below_after hb0 hb
        clear H1 hb hb0
        go_wp2
        go_ret
        rw [unhide hr]
        exact GivesSS.mk (IntsS.nil _ _) hb2
      | true =>
        have H2 := hide (fun w' (hb' : Below wr.heap.size wr w') => clone_any A1 z.length c1 wr.heap.size z w' (hA.below hb'))
        have HF := hide hF
        have HZ := hide hz
        have hnext : Hid (∀ z ∈ zss.take (k + 1), isP z = true) := hide (fun y hy => by
          rw [List.take_add_one, hz] at hy
          rcases List.mem_append.1 hy with h | h
          · exact unhide hP y h
          · simp at h
            subst h
            exact hb)
        clear hz hb hA hF hP
        go_wp2_with fail
        refine (unhide H1).mono ?_
        rintro e w2 ⟨rfl, hb⟩
        have H3 := hide (unhide H2 w2 hb)
        clear H1 H2
        go_wp2_with fail
        refine (unhide H3).mono ?_
        rintro e w3 ⟨A3, c3, rfl, o3, d3⟩
        have hb3 := below_after hb d3
        obtain ⟨⟨old, hold⟩, hfz⟩ := (unhide HF).old hb3 hlt
        have hF2 := (unhide HF).put (unhide HZ) hb3 (o3.low hb.size)
        clear H3 hb d3 hb3 o3 HF HZ
        go_wp2
        go_roundw
        case rel => exact ⟨k + 1, by omega, by go_num, hF2, hnext⟩
        case measure => simp [intOf]; omega
    · obtain rfl : n = k := by omega
      have hall : allP zss = true := allP_yes fun z hz => unhide hP z (by rw [List.take_of_length_le (by rw [unhide HL]; exact Nat.le_refl _)]; exact hz)
      obtain ⟨hbw, vs, hown, hin⟩ := hF
      rw [← unhide HL, fillS_all] at hin
      obtain ⟨xs, hx1, hx2, hx⟩ := hin.prs
      rw [← hx1] at hown
      have hxP : ∀ q ∈ xs, isP q.2 = true := fun q hq => allP_at hall (by rw [← hx2]; exact List.mem_map_of_mem hq)
      have H1 := hide (sort_any wr w.heap.size g n n xs hown hx hxP hn)
      have HALL := hide hall
      have HX2 := hide hx2
      have HX := hide hx
      have HXP := hide hxP
      have HOWN := hide hown
      clear hP hall hin hx hxP hx1 hx2 hown
      go_wp2_with fail
      refine (unhide H1).mono ?_
      rintro e w2 ⟨rfl, ys, hperm, hsort, hown2, hg2⟩
      have hk2 := KeepI.of_grown (v := .slice (some ⟨g, 0, none⟩) n n) (unhide HOWN) hg2
      have hy : RowPrs w2 w.heap.size ys := ((unhide HX).perm hperm).keepI hk2
      have hyP : ∀ q ∈ ys, isP q.2 = true := fun q hq => unhide HXP q (hperm.subset hq)
      have hbg := ((unhide HOWN).lt g rfl).1
      have hb2 := hbw.grown hg2 hbw.size (fun q hq => by injection hq with hq; omega)
      have H2 := hide (compact_any w2 w.heap.size g n n ys hown2 hy hyP hn (Nat.le_refl _))
      have HORD := hide (kept_ord (unhide HALL) (unhide HX2) hperm hsort)
      have HY := hide hy
      have HOWN2 := hide hown2
      clear H1 hperm hsort hown2 hg2 hk2 hy hyP hbw
      go_wp2_with fail
      refine (unhide H2).mono ?_
      rintro e w3 ⟨rfl, hown3, hg3⟩
      have hk3 := KeepI.of_grown (v := .slice (some ⟨g, 0, none⟩) n n) (unhide HOWN2) hg3
      have hp3 := ((unhide HY).keepI hk3).sub ((keepN_sub (f := fun q : Pr => q.2) ys ys.length).trans (List.take_sublist _ _))
      have hb3 := hb2.grown hg3 hb2.size (fun q hq => by injection hq with hq; omega)
      have hlen : (ordR zss).length = (keepN (·.2) ys ys.length).length := by rw [← unhide HORD, List.length_map]
      have hfin : IntsS w3 w.heap.size (.slice (some ⟨g, 0, none⟩) (keepN (·.2) ys ys.length).length n) (ordR zss) := by
        refine ⟨(keepN (·.2) ys ys.length).map (·.1), by rw [hlen]; exact hown3, ?_⟩
        rw [← unhide HORD]
        exact hp3.inner
      clear H2 hown3 hg3 hk3 hp3 hlen
      go_wp2
      go_ret
      exact GivesSS.mk hfin hb3

end Go.Proofs.Ytffdnpgalpcigaa


/-
  (*impl.node).roots, impl.RootsIn, by their contracts.
-/

namespace Go.Proofs.Ytffdnpgalpcigaa
set_option maxRecDepth 100000
open Go.RowKit

/-- The values vs are rows between the blocks lo and hi that hold the lists of L; two of them may lie at one place. -/
def RowsAt (w : World) (lo hi : Nat) (vs : List Value) (L : List (List Int)) : Prop := vs.length = L.length ∧ ∀ (i : Nat) (x : Value) (z : List Int), vs[i]? = some x → L[i]? = some z → Ints w lo x z ∧ Until hi x
theorem RowsAt.below {w w' : World} {lo hi B : Nat} {vs : List Value} {L : List (List Int)} (h : RowsAt w lo hi vs L) (hb : Below B w w') (hB : hi ≤ B) : RowsAt w' lo hi vs L :=
  ⟨h.1, fun i x z hx hz => ⟨(h.2 i x z hx hz).1.stay (h.2 i x z hx hz).2 hb hB, (h.2 i x z hx hz).2⟩⟩
theorem RowsAt.nil (w : World) (lo hi : Nat) : RowsAt w lo hi [] [] := ⟨rfl, fun i x z hx => by simp at hx⟩
theorem RowsAt.one {w : World} {lo hi : Nat} {v : Value} {z : List Int} (h : Ints w lo v z) (hu : Until hi v) : RowsAt w lo hi [v] [z] := ⟨rfl, fun i x y hx hy => by
  cases i with
  | zero => simp at hx hy; subst hx; subst hy; exact ⟨h, hu⟩
  | succ i => simp at hx⟩
theorem RowsAt.app {w : World} {lo hi : Nat} {vs us : List Value} {L M : List (List Int)} (h : RowsAt w lo hi vs L) (k : RowsAt w lo hi us M) : RowsAt w lo hi (vs ++ us) (L ++ M) :=
  ⟨by rw [List.length_append, List.length_append, h.1, k.1], fun i x z hx hz => by
    have hl := h.1
    by_cases hi : i < vs.length
    · rw [List.getElem?_append_left hi] at hx
      rw [List.getElem?_append_left (by omega)] at hz
      exact h.2 i x z hx hz
    · rw [List.getElem?_append_right (by omega)] at hx hz
      rw [← hl] at hz
      exact k.2 _ x z hx hz⟩
theorem RowsAt.one_ {w : World} {lo hi : Nat} {vs : List Value} {L : List (List Int)} (h : RowsAt w lo hi vs L) : ∀ u ∈ vs, u.oneCell' = true := fun u hu => by
  obtain ⟨i, hi, rfl⟩ := List.getElem_of_mem hu
  obtain ⟨A, c, e⟩ := (h.2 i _ _ (List.getElem?_eq_getElem hi) (List.getElem?_eq_getElem (by rw [← h.1]; exact hi))).1.slice
  rw [e]; rfl
theorem own_nilcap {w : World} {B n c : Nat} {e : TypeId} {A : Option Addr} {xs : List Value} (h : w.ownsRow B e 1 (.slice A n c) n xs) : A = none → c = 0 := fun hA => by
  rcases h.2 with ⟨hv, _⟩ | ⟨g, cap, cur, hv, _⟩
  · injection hv
  · injection hv with h1; rw [h1] at hA; cases hA
/-- A list that was just built of one row. -/
theorem own_single (w : World) (B : Nat) (hB : B ≤ w.heap.size) (u : Value) : (w.alloc (.cells #[u] 22)).ownsRow B 22 1 (.slice (some ⟨w.heap.size, 0, none⟩) 1 1) 1 [u] :=
  ⟨rfl, .inr ⟨w.heap.size, 1, #[u], rfl, hB, heap_alloc_new w _, Nat.le_refl _, by unfold maxLen; omega, rfl, rfl⟩⟩

def RootEnds (w : World) (lo hi : Nat) (L : List (List Int)) (e : Ending) (w' : World) : Prop :=
  ∃ A c vs, e = .returned (.slice A L.length c) ∧ w'.ownsRow w.heap.size 22 1 (.slice A L.length c) L.length vs ∧ RowsAt w' lo hi vs L ∧ Below w.heap.size w w'
theorem RootEnds.mk {w w' : World} {lo hi n : Nat} {L : List (List Int)} {v : Value} {vs : List Value} (hn : n = L.length) (h : w'.ownsRow w.heap.size 22 1 v n vs) (hr : RowsAt w' lo hi vs L) (hb : Below w.heap.size w w') : RootEnds w lo hi L (.returned v) w' := by
  subst hn
  obtain ⟨A, c, rfl, _⟩ := Reads.of_own h
  exact ⟨A, c, vs, rfl, h, hr, hb⟩

set_option maxHeartbeats 1600000 in
theorem roots_leaf (v : Value) (lo hi : Nat) (zs : List Int) (w : World) (h : NodeAt w lo hi v (rootP zs) (.slice none 0 0)) :
    Calls Try.prog 55 #[v] w (RootEnds w lo hi []) := by
  obtain ⟨g, A, c, rfl, _, q0, q1, hI⟩ := h.cells
  have H1 := hide (leaf_any g 0 0 none true rfl w q1)
  clear h hI
  go_enter Try.func55, Try.ntmps55
  go_wp2_with fail
  refine (unhide H1).mono ?_
  rintro e w2 ⟨rfl, rfl⟩
  clear H1
  go_wp2
  go_ret
  exact RootEnds.mk (vs := []) rfl ⟨rfl, .inl ⟨rfl, rfl⟩⟩ (RowsAt.nil _ _ _) (Below.refl _ _)

set_option maxHeartbeats 1600000 in
theorem roots_any : ∀ (m : Nat) (v : Value) (lo hi : Nat) (zs : List Int) (w : World) (_ : Grown m w lo hi v zs) (_ : hi ≤ w.heap.size) (_ : splitOK zs = true),
    Calls Try.prog 55 #[v] w (RootEnds w lo hi (rtsF m zs)) := by
  intro m
  induction m with
  | zero =>
    intro v lo hi zs w h hh hs
    rw [rtsF_low (by rw [h.1]; omega)]
    exact roots_leaf v lo hi zs w (h.leaf h.1)
  | succ m ih =>
    intro v lo hi zs w h hh hs
    by_cases h1 : zs.length = 1
    · rw [rtsF_low (by omega)]
      exact roots_leaf v lo hi zs w (h.leaf h1)
    · obtain ⟨m', A, c, vs, hm', hN, hown, hun, hkids⟩ := h.tree h1
      obtain rfl : m = m' := by omega
      obtain ⟨g, A0, c0, rfl, hgl, hgh, hWn, hI0, hu0⟩ := hN
      have q0 := hWn.cell 0
      have q1 := hWn.cell 1
      have hp := (splitOK_all hs).1
      have HD : Hid (rtsF (m + 1) zs = rtsK m zs (pcsP zs) (pcsP zs).length) := hide (by rw [rtsF_many (by have := (splitOK_all hs).2; omega), rtsK_all])
      have HP := hide (fun z hz => pcsP_at hp z hz)
      have hpc := pcsP_len hp
      have hp0 := pcsP_pos (splitOK_all hs).2
      have hrl := rootP_len hp
      have HF : Hid (∀ k, (rtsK m zs (pcsP zs) k).length ≤ 8) := hide (fun k => by
        have h1 := rtsF_le (m := m + 1) hp
        rw [unhide HD] at h1
        have h2 := flat_take_len (m := m) (k := k) (R := pcsP zs)
        unfold rtsK at h1 ⊢
        rw [List.take_length, List.length_cons] at h1
        rw [List.length_cons]; omega)
      have HFZ := hide (fun z hz => rtsF_le (m := m) (pcsP_at hp z hz).1)
      obtain ⟨R, hR⟩ : ∃ R, pcsP zs = R := ⟨_, rfl⟩
      rw [hR] at hown hun hkids q1 HP hpc HD hp0 HF HFZ
      have HK := hide hkids
      have hvl : vs.length = R.length := by simpa using hown.1
      have hrd := Reads.of_own_at hown
      have H1 := hide (leaf_any g R.length c A false (by rw [beq_eq_false_iff_ne]; omega) w q1)
      rw [unhide HD]
      have hgw : g < w.heap.size := by omega
      have hb0 := (Below.refl _ w).alloc (Nat.le_refl _) (.cells #[.slice A0 (rootP zs).length c0] 22)
      have hO0 := own_single w w.heap.size (Nat.le_refl _) (.slice A0 (rootP zs).length c0)
      have hR0 : RowsAt (w.alloc (.cells #[.slice A0 (rootP zs).length c0] 22)) lo hi [.slice A0 (rootP zs).length c0] (rtsK m zs R 0) := (RowsAt.one hI0 hu0).below hb0 hh
      have HR0 := hide (And.intro hb0 (And.intro hO0 hR0))
      clear h hs hp hR hkids hun hown hI0 hu0 hWn hb0 hO0 hR0 HD
      go_enter Try.func55, Try.ntmps55
      go_wp2_with fail
      refine (unhide H1).mono ?_
      rintro e w2 ⟨rfl, rfl⟩
      clear H1
      go_wp2
      go_loopw [3, 5, 18] (fun v _ i wr => ∃ (k : Nat) (xs : List Value), k ≤ R.length ∧ i = .int .i64 k ∧ Below w2.heap.size w2 wr ∧ wr.ownsRow w2.heap.size 22 1 v (rtsK m zs R k).length xs ∧ Hid (RowsAt wr lo hi xs (rtsK m zs R k))) (fun _ _ i _ => R.length - (intOf i).toNat)
      case atStart => exact ⟨0, _, Nat.zero_le _, rfl, (unhide HR0).1, (unhide HR0).2.1, (unhide HR0).2.2⟩
      case round =>
        obtain ⟨k, xs, hk, rfl, hbr, hO, hx⟩ := hrel
        clear HR0
        obtain ⟨Av, cv, rfl, _⟩ := Reads.of_own hO
        by_cases hlt : k < R.length
        · obtain ⟨ad, x, rfl, _, hxv, hcell⟩ := (hrd.below hbr).at_ hlt
          obtain ⟨z, hz⟩ : ∃ z, R[k]? = some z := ⟨_, List.getElem?_eq_getElem hlt⟩
          have hGz := unhide HK k x z hxv hz
          have hzp := unhide HP z (List.mem_of_getElem? hz)
          obtain ⟨gx, rfl⟩ := hGz.ptr
          have HI := hide (ih _ lo hi z wr (hGz.below hbr hh) (Nat.le_trans hh hbr.size) (splitOK_yes hzp.1 hzp.2.1))
          have HS := hide (rtsK_step (m := m) (p := zs) hz)
          have hzl := unhide HFZ z (List.mem_of_getElem? hz)
          have hkl := unhide HF k
          have HO := hide hO
          clear hz hGz hzp hxv hO
          obtain ⟨L, hL⟩ : ∃ L, rtsF m z = L := ⟨_, rfl⟩
          rw [hL] at HI HS hzl
          clear hL
          go_wp2_with fail
          refine (unhide HI).mono ?_
          rintro e w4 ⟨A4, c4, ys, rfl, hO4, hR4, hb4⟩
          have hOx := own_below (unhide HO) hb4
          have hRx := (unhide hx).below hb4 (Nat.le_trans hh hbr.size)
          have hb5 := below_after hbr hb4
          have hrd4 := Reads.of_own_at hO4
          have hcap4 := own_nilcap hO4
          have hone4 := hR4.one_
          have HR4 := hide (And.intro hRx hR4)
          have hs5 := hb5.size
          clear HI hO4 hRx hR4 hcell hx HO hbr hb4
          go_wp2_with (first
            | (at_builtin; refine wpList_append_rows rfl (.tmp 22) (.tmp 24) rfl w2.heap.size w4.heap.size (rtsK m zs R k).length L.length c4 w2 _ A4 xs ys rfl rfl hOx hrd4 hcap4 hone4 (by omega) (by omega) hb5 hs5 ?_))
          intro v6 w6 hO6 hb6 hg6 _
          have hR6 := hide ((unhide HR4).1.app (unhide HR4).2)
          rw [← unhide HS] at hR6
          have hl6 : (rtsK m zs R k).length + L.length = (rtsK m zs R (k + 1)).length := by rw [unhide HS, List.length_append]
          rw [hl6] at hO6
          have hR7 : Hid (RowsAt w6 lo hi (xs ++ ys) (rtsK m zs R (k + 1))) := hide (by
            refine ⟨(unhide hR6).1, fun i x y hx hy => ?_⟩
            obtain ⟨h1, h2⟩ := (unhide hR6).2 i x y hx hy
            exact ⟨h1.kept hg6 (by
              cases hq : x.ownBlock with
              | none => exact .inl rfl
              | some q =>
                refine .inr fun e => ?_
                have h3 := h2 q hq
                have h4 := (hOx.lt q e.symm).1
                omega), h2⟩)
          clear hOx hrd4 hcap4 hone4 HR4 hg6 hR6 hl6 hb5
          go_wp2
          go_roundw
          case rel => exact ⟨k + 1, xs ++ ys, by omega, by go_num, hb6, hO6, hR7⟩
          case measure => simp [intOf]; omega
        · obtain rfl : R.length = k := by omega
          go_wp2
          go_ret
          exact RootEnds.mk rfl hO (unhide hx) hbr

theorem RowsAt.atS {w : World} {lo hi B n c : Nat} {A : Option Addr} {vs : List Value} {L : List (List Int)} (hO : w.ownsRow B 22 1 (.slice A n c) n vs) (h : RowsAt w lo hi vs L) (hl : L.length = n) (hp : ∀ z ∈ L, isP z = true) : AtS w A n L :=
  ⟨hl, fun wr hb k hk => by
    obtain ⟨ad, u, hA, _, hu, hc⟩ := (Reads.of_own_at (own_below hO hb)).at_ hk
    have hz : L[k]? = some (L[k]'(by omega)) := List.getElem?_eq_getElem _
    obtain ⟨h1, h2⟩ := h.2 k u _ hu hz
    obtain ⟨A', c', rfl⟩ := h1.slice
    exact ⟨ad, A', c', _, hA, hz, hc, (h1.below hb).argP (hp _ (List.mem_of_getElem? hz))⟩⟩

set_option maxHeartbeats 800000 in
theorem iroots_any (A : Option Addr) (n c B : Nat) (zs : List Int) (w : World) (h : Arg w B A n c zs) :
    Calls Try.prog 26 #[.slice A n c] w (GivesSS w (rtsR zs)) := by
  have hl := h.len
  obtain ⟨b, hb⟩ : ∃ b, splitOK zs = b := ⟨_, rfl⟩
  cases b with
  | false =>
    have H0 := hide (grow_no A n c B zs w h hb)
    rw [rtsR_no hb]
    clear h hb hl
    go_enter Try.func26, Try.ntmps26
    go_wp2_with fail
    refine (unhide H0).mono ?_
    rintro e w2 ⟨rfl, hb2⟩
    clear H0
    go_wp2
    go_ret
    exact GivesSS.mk (IntsS.nil _ _) hb2
  | true =>
    have hp := (splitOK_all hb).1
    have h8 := isP_le hp
    have H0 := hide (grow_any 7 A n c B zs w h hb (by omega) (by omega))
    have HB := hide hb
    have hle := rtsF_le (m := 7) hp
    have HA := hide (rtsF_all 7 hp)
    have HR : Hid (rtsR zs = ordR (rtsF 7 zs)) := hide (by unfold rtsR; rw [if_pos hb])
    rw [unhide HR]
    obtain ⟨L, hL⟩ : ∃ L, rtsF 7 zs = L := ⟨_, rfl⟩
    have HL := hide hL
    rw [hL] at hle HA ⊢
    clear h hb hl hp h8 hL
    go_enter Try.func26, Try.ntmps26
    go_wp2_with fail
    refine (unhide H0).mono ?_
    rintro e w2 ⟨v, rfl, hG, hb2⟩
    have H1 := hide (roots_any 7 v _ _ zs w2 hG (Nat.le_refl _) (unhide HB))
    rw [unhide HL] at H1
    clear H0 hG
    go_wp2_with fail
    refine (unhide H1).mono ?_
    rintro e w3 ⟨A3, c3, vs, rfl, hO, hR, hb3⟩
    have H2 := hide (iorda_any A3 L.length c3 L w3 (hR.atS hO rfl (unhide HA)) (by omega))
    have hb4 := below_after hb2 hb3
    clear H1 hO hR hb3
    go_wp2_with fail
    refine (unhide H2).mono ?_
    rintro e w4 ⟨A4, c4, rfl, hS, hb5⟩
    clear H2
    go_wp2
    go_ret
    exact GivesSS.mk (hS.low hb4.size) (below_after hb4 hb5)
end Go.Proofs.Ytffdnpgalpcigaa


/-
  spec.IsSeparable, impl.IsSeparable, by their contracts.
-/

namespace Go.Proofs.Ytffdnpgalpcigaa
set_option maxRecDepth 100000
open Go.RowKit

def shortAll (l : List (List Int)) : Bool := l.all fun z => decide (z.length ≤ 2)
def sepR (p : List Int) : Bool := isP p && shortAll (rtsR p)
theorem shortAll_no {l : List (List Int)} {z : List Int} (h : z ∈ l) (hz : 2 < z.length) : shortAll l = false := by
  unfold shortAll
  rw [List.all_eq_false]
  exact ⟨z, h, by simp; omega⟩
theorem shortAll_yes {l : List (List Int)} (h : ∀ z ∈ l, z.length ≤ 2) : shortAll l = true := by
  unfold shortAll
  rw [List.all_eq_true]
  intro z hz
  simpa using h z hz

set_option maxHeartbeats 800000 in
theorem ssep_any (A : Option Addr) (n c B : Nat) (zs : List Int) (w : World) (h : Arg w B A n c zs) :
    Calls Try.prog 30 #[.slice A n c] w (GivesB w (sepR zs)) := by
  have H0 := hide (sroots_any A n c B zs w h)
  obtain ⟨b, hb⟩ : ∃ b, isP zs = b := ⟨_, rfl⟩
  have H1 := hide (fun w' (hb' : Below w.heap.size w w') => sisperm_any A n c B zs b hb w' (h.below hb').reads h.le h.cap)
  have hle := rtsR_len zs
  have HS : Hid (sepR zs = (b && shortAll (rtsR zs))) := hide (by unfold sepR; rw [hb])
  rw [unhide HS]
  have HL := hide (fun z hz => isP_le (rtsR_all (p := zs) (z := z) hz))
  obtain ⟨R, hR⟩ : ∃ R, rtsR zs = R := ⟨_, rfl⟩
  rw [hR] at H0 hle HL ⊢
  clear h hb hR
  go_enter Try.func30, Try.ntmps30
  go_wp2_with fail
  refine (unhide H0).mono ?_
  rintro e w2 ⟨A2, c2, rfl, hS, hb2⟩
  have H2 := hide (unhide H1 w2 hb2)
  clear H0 H1
  go_wp2
  go_loopw [4] (fun i wr => ∃ k : Nat, k ≤ R.length ∧ i = .int .i64 k ∧ wr = w2 ∧ Hid (∀ z ∈ R.take k, z.length ≤ 2)) (fun i _ => R.length - (intOf i).toNat)
  case atStart => exact ⟨0, Nat.zero_le _, rfl, rfl, fun z hz => by simp at hz⟩
  case round =>
    obtain ⟨k, hk, rfl, rfl, hx⟩ := hrel
    by_cases hlt : k < R.length
    · obtain ⟨ad, A1, c1, z, rfl, hz, hcell, hI⟩ := hS.at_ hlt
      have hzl := unhide HL z (List.mem_of_getElem? hz)
      by_cases h2 : 2 < z.length
      · have hno := shortAll_no (List.mem_of_getElem? hz) h2
        have h2' : (2 : Int) < (z.length : Int) := by omega
        rw [hno, Bool.and_false]
        clear hz hI hS hx hno
        go_wp2
        go_ret
        exact ⟨rfl, hb2⟩
      · have h2' : ¬ (2 : Int) < (z.length : Int) := by omega
        have hnext : Hid (∀ y ∈ R.take (k + 1), y.length ≤ 2) := hide (fun y hy => by
          rw [List.take_add_one, hz] at hy
          rcases List.mem_append.1 hy with h | h
          · exact unhide hx y h
          · simp at h; subst h; omega)
        clear hz hI hx
        go_wp2
        go_roundw
        case rel => exact ⟨k + 1, by omega, by go_num, trivial, hnext⟩
        case measure => simp [intOf]; omega
    · obtain rfl : R.length = k := by omega
      have hyes := shortAll_yes (l := R) (fun z hz => unhide hx z (by rw [List.take_length]; exact hz))
      have HY := hide hyes
      clear hx hyes hS
      go_wp2_with fail
      refine (unhide H2).mono ?_
      rintro e w3 ⟨rfl, hd⟩
      have hb3 := below_after hb2 (hd.below _)
      clear H2 hd
      go_wp2
      go_ret
      exact ⟨by rw [unhide HY, Bool.and_true]; rfl, hb3⟩

set_option maxHeartbeats 800000 in
theorem isep_any (A : Option Addr) (n c B : Nat) (zs : List Int) (w : World) (h : Arg w B A n c zs) :
    Calls Try.prog 31 #[.slice A n c] w (GivesB w (sepR zs)) := by
  obtain ⟨b, hb⟩ : ∃ b, isP zs = b := ⟨_, rfl⟩
  have H1 := hide (iisperm_any A n c B zs b hb w h.reads h.under h.le h.small)
  have H0 := hide (fun w' (hb' : Below w.heap.size w w') => iroots_any A n c B zs w' (h.below hb'))
  have hle := rtsR_len zs
  have HS : Hid (sepR zs = (b && shortAll (rtsR zs))) := hide (by unfold sepR; rw [hb])
  rw [unhide HS]
  have HL := hide (fun z hz => isP_le (rtsR_all (p := zs) (z := z) hz))
  obtain ⟨R, hR⟩ : ∃ R, rtsR zs = R := ⟨_, rfl⟩
  rw [hR] at H0 hle HL ⊢
  clear h hb hR
  cases b with
  | false =>
    clear H0
    go_enter Try.func31, Try.ntmps31
    go_wp2_with fail
    refine (unhide H1).mono ?_
    rintro e w1 ⟨rfl, hb1⟩
    clear H1
    go_wp2
    go_ret
    exact ⟨rfl, hb1⟩
  | true =>
    rw [Bool.true_and]
    go_enter Try.func31, Try.ntmps31
    go_wp2_with fail
    refine (unhide H1).mono ?_
    rintro e w1 ⟨rfl, hb1⟩
    have H2 := hide (unhide H0 w1 hb1)
    clear H0 H1
    go_wp2_with fail
    refine (unhide H2).mono ?_
    rintro e w2 ⟨A2, c2, rfl, hS, hb2'⟩
    have hb2 := below_after hb1 hb2'
    clear H2 hb2'
    go_wp2
    go_loopw [4, 11] (fun _ i wr => ∃ k : Nat, k ≤ R.length ∧ i = .int .i64 k ∧ wr = w2 ∧ Hid (∀ z ∈ R.take k, z.length ≤ 2)) (fun _ i _ => R.length - (intOf i).toNat)
    case atStart => exact ⟨0, Nat.zero_le _, rfl, rfl, fun z hz => by simp at hz⟩
    case round =>
      obtain ⟨k, hk, rfl, rfl, hx⟩ := hrel
      by_cases hlt : k < R.length
      · obtain ⟨ad, A1, c1, z, rfl, hz, hcell, hI⟩ := hS.at_ hlt
        have hzl := unhide HL z (List.mem_of_getElem? hz)
        by_cases h2 : 2 < z.length
        · have hno := shortAll_no (List.mem_of_getElem? hz) h2
          have h2' : (2 : Int) < (z.length : Int) := by omega
          rw [hno]
          clear hz hI hS hx hno
          go_wp2
          go_ret
          exact ⟨rfl, hb2⟩
        · have h2' : ¬ (2 : Int) < (z.length : Int) := by omega
          have hnext : Hid (∀ y ∈ R.take (k + 1), y.length ≤ 2) := hide (fun y hy => by
            rw [List.take_add_one, hz] at hy
            rcases List.mem_append.1 hy with h | h
            · exact unhide hx y h
            · simp at h; subst h; omega)
          clear hz hI hx
          go_wp2
          go_roundw
          case rel => exact ⟨k + 1, by omega, by go_num, trivial, hnext⟩
          case measure => simp [intOf]; omega
      · obtain rfl : R.length = k := by omega
        have hyes := shortAll_yes (l := R) (fun z hz => unhide hx z (by rw [List.take_length]; exact hz))
        have HY := hide hyes
        clear hx hyes hS
        go_wp2
        go_ret
        exact ⟨by rw [unhide HY]; rfl, hb2⟩
end Go.Proofs.Ytffdnpgalpcigaa
