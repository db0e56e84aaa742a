/-
  Words and contracts that the laws lean on, bundled: NodeT, TreeW, MarkS, InfW, TreeE, TreeF, InfA, RootM, Cmp.
-/
import Derived.Test.YtffdnpgalpcigaaB6
import Derived.Test.YtffdnpgalpcigaaB2
import Derived.Test.YtffdnpgalpcigaaB5
import Derived.Test.YtffdnpgalpcigaaB3
import Derived.Deep.RegionHeld3
import Derived.Lib.SmallJoins
import Derived.Test.YtffdnpgalpcigaaB1
import Derived.Sort.Grow
import Derived.Outline

/-
  (*impl.node).isLeaf, (*impl.node).text, impl.TreeText, by their contracts.
-/

namespace Go.Proofs.Ytffdnpgalpcigaa
set_option maxRecDepth 100000
open Go.RowKit

theorem leaf_any (g k c : Nat) (A : Option Addr) (b : Bool) (hb : ((k : Int) == 0) = b) (w : World) (hc : w.cell? ⟨g, 1, none⟩ = some (.slice A k c)) :
    Calls Try.prog 69 #[.pointer (some ⟨g, 0, none⟩)] w fun e w' => e = .returned (.bool b) ∧ w' = w := by
  go_enter Try.func69, Try.ntmps69
  go_wp2
  go_ret
  exact ⟨rfl, rfl⟩
theorem rootP_one {p : List Int} (h : p.length = 1) : rootP p = [1] := by unfold rootP; rw [if_pos h]
theorem one_text : ptext [1] = oneT := by decide +kernel
theorem pcsP_pos {p : List Int} (h0 : 0 < p.length) : 0 < (pcsP p).length := by
  unfold pcsP sumPcs
  repeat' split
  all_goals try simp
  rw [pcsOf, List.length_map, cuts_yes h0]
  simp

set_option maxHeartbeats 1600000 in
theorem text_leaf (v : Value) (lo hi : Nat) (zs : List Int) (w : World) (h : NodeAt w lo hi v (rootP zs) (.slice none 0 0)) (h1 : zs.length = 1) :
    Calls Try.prog 50 #[v] w (GivesS w oneT) := by
  obtain ⟨g, A, c, rfl, _, q0, q1, hI⟩ := h.cells
  rw [rootP_one h1] at q0 hI
  have H1 := hide (leaf_any g 0 0 none true rfl w q1)
  have H2 := hide (itext_any A 1 c _ [1] w (hI.argP (by decide)))
  rw [one_text] at H2
  clear h hI
  go_enter Try.func50, Try.ntmps50
  go_wp2_with fail
  refine (unhide H1).mono ?_
  rintro e w2 ⟨rfl, rfl⟩
  go_wp2_with fail
  refine (unhide H2).mono ?_
  rintro e w3 ⟨rfl, hb3⟩
  clear H1 H2
  go_wp2
  go_ret
  exact ⟨rfl, hb3⟩

set_option maxHeartbeats 1600000 in
theorem text_any : ∀ (m : Nat) (v : Value) (lo hi : Nat) (zs : List Int) (w : World) (_ : Grown m w lo hi v zs) (_ : hi ≤ w.heap.size) (_ : splitOK zs = true) (_ : m ≤ 7),
    Calls Try.prog 50 #[v] w (GivesS w (textF m zs)) := by
  intro m
  induction m with
  | zero =>
    intro v lo hi zs w h hh hs hm
    rw [textF_one hs h.1]
    exact text_leaf v lo hi zs w (h.leaf h.1) h.1
  | succ m ih =>
    intro v lo hi zs w h hh hs hm
    by_cases h1 : zs.length = 1
    · rw [textF_one hs h1]
      exact text_leaf v lo hi zs w (h.leaf h1) h1
    · obtain ⟨m', A, c, vs, hm', hN, hown, hun, hkids⟩ := h.tree h1
      obtain rfl : m = m' := by omega
      obtain ⟨g, A0, c0, rfl, hgh, q0, q1, hI0⟩ := hN.cells
      have hp := (splitOK_all hs).1
      have HD := hide (textF_many (m := m) hs h1)
      have HP := hide (fun z hz => pcsP_at hp z hz)
      have hpc := pcsP_len hp
      have hp0 := pcsP_pos (splitOK_all hs).2
      obtain ⟨R, hR⟩ : ∃ R, pcsP zs = R := ⟨_, rfl⟩
      rw [hR] at hown hun hkids q1 HP hpc HD hp0
      have HK := hide hkids
      have hvl : vs.length = R.length := by simpa using hown.1
      have hrd := Reads.of_own_at hown
      have H1 := hide (leaf_any g R.length c A false (by rw [beq_eq_false_iff_ne]; omega) w q1)
      have HT := hide (fun w' (hb : Below w.heap.size w w') => itext_any A0 (rootP zs).length c0 _ (rootP zs) w' ((hI0.below hb).arg (by have := rootP_len hp; omega) hI0.cap (small_root hp)))
      obtain ⟨i0, hi0, hz0, hz1, hz2⟩ := info_parts strInfo
      have hgw : g < w.heap.size := by omega
      have hsz := textsz (rootP zs)
      clear hN h hs hp hR hkids hun hown hI0
      go_enter Try.func50, Try.ntmps50
      go_wp2_with fail
      refine (unhide H1).mono ?_
      rintro e w2 ⟨rfl, rfl⟩
      clear H1
      go_wp2_with (first
        | (at_make; refine wpList_make_full _ rfl (.tmp 17) (.tmp 17) 47 rfl w2.heap.size 9 i0 (.string ByteArray.empty) 1 Try.underlying47 hi0 hz0 hz1 _ _ _ _ R.length rfl rfl (by first | rfl | omega) (by first | rfl | omega) (by rw [hz2]; omega) (by unfold maxLen; omega) (Nat.le_refl _) ?_))
      intro w3 hown3 hg3
      have hb3 : Below w2.heap.size w2 w3 := (Below.refl _ _).grown hg3 (Nat.le_refl _) (by simp)
      have p0 := (hb3.cell (p := ⟨g, 0, none⟩) hgw).trans q0
      have p1 := (hb3.cell (p := ⟨g, 1, none⟩) hgw).trans q1
      clear hg3
      go_wp2
      go_loopw [4, 5, 24] (fun _ _ i wr => ∃ (k : Nat) (xs : List Value), k ≤ R.length ∧ i = .int .i64 k ∧ Below w2.heap.size w2 wr ∧ wr.ownsRow w2.heap.size 9 1 (.slice (some ⟨w2.heap.size, 0, none⟩) R.length R.length) R.length xs ∧ Hid (xs.take k = ((R.map (textF m)).map Value.string).take k)) (fun _ _ i _ => R.length - (intOf i).toNat)
      case atStart => exact ⟨0, _, Nat.zero_le _, rfl, hb3, hown3, by exact rfl⟩
      case round =>
        obtain ⟨k, xs, hk, rfl, hbr, hO, hx⟩ := hrel
        clear hb3 hown3
        by_cases hlt : k < R.length
        · obtain ⟨ad, x, rfl, _, hxv, hcell⟩ := (hrd.below hbr).at_ hlt
          obtain ⟨z, hz⟩ : ∃ z, R[k]? = some z := ⟨_, List.getElem?_eq_getElem hlt⟩
          have hGz := unhide HK k x z hxv hz
          have hzp := unhide HP z (List.mem_of_getElem? hz)
          obtain ⟨gx, rfl⟩ := hGz.ptr
          have HI := hide (ih _ lo hi z wr (hGz.below hbr hh) (Nat.le_trans hh hbr.size) (splitOK_yes hzp.1 hzp.2.1) (by omega))
          have HZ := hide hz
          have HO := hide hO
          clear hz hGz hzp hxv hO
          go_wp2_with fail
          refine (unhide HI).mono ?_
          rintro e w4 ⟨rfl, hb4⟩
          have hO4 := own_below (unhide HO) hb4
          have hl : xs.length = R.length := by simpa using hO4.1
          obtain ⟨old, hold⟩ : ∃ old, w4.cell? ⟨w2.heap.size, k, none⟩ = some old := ⟨_, by rw [hO4.cellAt k (by omega)]; exact List.getElem?_eq_getElem (by omega)⟩
          have hfz := hO4.frozenAt k
          have hst := hide (take_set_eq (unhide hx) (show ((R.map (textF m)).map Value.string)[k]? = some (.string (textF m z)) by rw [List.getElem?_map, List.getElem?_map, unhide HZ]; rfl) (by omega))
          have ho2 := (hO4.stored k (.string (textF m z))).1
          have hb2 := below_set_own (below_after hbr hb4) hO4 k (.string (textF m z))
          clear HI hb4 hbr hO4 hcell hl hx
          go_wp2
          go_roundw
          case rel => exact ⟨k + 1, _, by omega, by go_num, hb2, ho2, hst⟩
          case measure => simp [intOf]; omega
        · obtain rfl : R.length = k := by omega
          have hlx : xs.length = R.length := by simpa using hO.1
          have hxs : xs = (R.map (textF m)).map Value.string := by
            have h := unhide hx
            rwa [List.take_of_length_le (by omega), List.take_of_length_le (by simp)] at h
          subst hxs
          have r0 := (hbr.cell (p := ⟨g, 0, none⟩) hgw).trans q0
          have r1 := (hbr.cell (p := ⟨g, 1, none⟩) hgw).trans q1
          have HO := hide hO
          have HT2 := hide (unhide HT wr hbr)
          clear hx hlx hO HT
          go_wp2_with fail
          refine (unhide HT2).mono ?_
          rintro e w4 ⟨rfl, hb4⟩
          have hO4 := own_below (unhide HO) hb4
          have hbw4 := below_after hbr hb4
          have hX7 : 20 ^ (m + 1) ≤ 1280000000 := Nat.pow_le_pow_right (n := 20) (by decide) (show m + 1 ≤ 7 by omega)
          have hjs : ∀ s ∈ R.map (textF m), s.size ≤ 1280000000 := fun s hs => by
            obtain ⟨z, _, rfl⟩ := List.mem_map.1 hs
            exact Nat.le_trans (textF_size m z) hX7
          have hmul : ∀ k, k ≤ R.length → k * (1280000000 + 1) ≤ 4398046511104 := fun k hk => by omega
          have hj := jn_eq sepT (R.map (textF m)) (R.map (textF m)).length (Nat.le_refl _)
          rw [List.take_length] at hj
          have hlen := Nat.le_trans (jn_le hjs (R.map (textF m)).length (Nat.le_refl _)) (hmul (R.map (textF m)).length (by rw [List.length_map]; exact Nat.le_refl _))
          rw [hj] at hlen
          have H7 := hide (ijoin_row w2.heap.size R.length R.length (R.map (textF m)) sepT w4 _ hO4 (by omega) (Nat.le_refl _) hlen)
          rw [← hj] at H7
          have hbs := barsz hjs
          have HBS := hide hbs
          clear hX7 hjs hmul hbs HT2 hO4 hj hlen hb4
          go_wp2_with fail
          refine (unhide H7).mono ?_
          rintro e w5 ⟨rfl, hb5⟩
          have hbw5 := below_after hbw4 hb5
          have hJ : (⟨(jn sepT (R.map (textF m)) (R.map (textF m)).length).toArray⟩ : ByteArray) = barT (R.map (textF m)) := rfl
          rw [hJ]
          have hJs : (barT (R.map (textF m))).size ≤ 20000000000 := by
            have := unhide HBS
            rw [List.length_map] at this
            omega
          have HD2 := hide (unhide HD)
          clear HD HBS hJ H7 hb5 hbw4
          generalize barT (R.map (textF m)) = J at HD2 hJs ⊢
          generalize ptext (rootP zs) = T at HD2 hsz ⊢
          go_wp2
          go_ret
          exact ⟨by rw [unhide HD2]; rfl, hbw5⟩

set_option maxHeartbeats 1600000 in
theorem itreetext_any (m : Nat) (A : Option Addr) (n c B : Nat) (zs : List Int) (w : World) (h : Arg w B A n c zs) (hn : n ≤ m + 1) (hm : m ≤ 7) :
    Calls Try.prog 22 #[.slice A n c] w (GivesS w (textF m zs)) := by
  obtain ⟨b, hb⟩ : ∃ b, splitOK zs = b := ⟨_, rfl⟩
  cases b with
  | false =>
    have H0 := hide (grow_no A n c B zs w h hb)
    rw [textF_no hb]
    clear h hb
    go_enter Try.func22, Try.ntmps22
    go_wp2_with fail
    refine (unhide H0).mono ?_
    rintro e w2 ⟨rfl, hb2⟩
    clear H0
    go_wp2
    go_ret
    exact ⟨rfl, hb2⟩
  | true =>
    have H0 := hide (grow_any m A n c B zs w h hb hn (by omega))
    have HB := hide hb
    clear h hb
    go_enter Try.func22, Try.ntmps22
    go_wp2_with fail
    refine (unhide H0).mono ?_
    rintro e w2 ⟨v, rfl, hG, hb2⟩
    have H1 := hide (text_any m v _ _ zs w2 hG (Nat.le_refl _) (unhide HB) hm)
    clear H0 hG
    go_wp2_with fail
    refine (unhide H1).mono ?_
    rintro e w3 ⟨rfl, hb3⟩
    clear H1
    go_wp2
    go_ret
    exact ⟨rfl, below_after hb2 hb3⟩
end Go.Proofs.Ytffdnpgalpcigaa


/-
  TreeText, TreeDepth of both sides at any list, by their contracts.
-/

namespace Go.Proofs.Ytffdnpgalpcigaa
set_option maxRecDepth 100000
open Go.RowKit

theorem split_len {zs : List Int} (h : splitOK zs = true) : zs.length ≤ 8 := isP_le (splitOK_all h).1
theorem stextW (A : Option Addr) (n c B : Nat) (zs : List Int) (w : World) (h : Arg w B A n c zs) : Calls Try.prog 21 #[.slice A n c] w (GivesS w (textF 7 zs)) := by
  cases hs : splitOK zs with
  | true => exact ttext_any 7 A n c B zs w h (by have := split_len hs; have := h.len; omega) (Nat.le_refl _)
  | false => exact ttext_low A n c B zs w h (.inr hs) _ (by rw [textF_no hs, hs]; rfl)
theorem itextW (A : Option Addr) (n c B : Nat) (zs : List Int) (w : World) (h : Arg w B A n c zs) : Calls Try.prog 22 #[.slice A n c] w (GivesS w (textF 7 zs)) := by
  cases hs : splitOK zs with
  | true => exact itreetext_any 7 A n c B zs w h (by have := split_len hs; have := h.len; omega) (Nat.le_refl _)
  | false =>
    have H0 := hide (grow_no A n c B zs w h hs)
    rw [textF_no hs]
    clear h hs
    go_enter Try.func22, Try.ntmps22
    go_wp2_with fail
    refine (unhide H0).mono ?_
    rintro e w2 ⟨rfl, hb2⟩
    clear H0
    go_wp2
    go_ret
    exact ⟨rfl, hb2⟩
theorem sdepthW (A : Option Addr) (n c B : Nat) (zs : List Int) (w : World) (h : Arg w B A n c zs) : Calls Try.prog 23 #[.slice A n c] w (fun e w' => e = .returned (.int .i64 (depF 7 zs)) ∧ Below w.heap.size w w') := by
  cases hs : splitOK zs with
  | true => exact sdepth_any 7 A n c B zs w h (by have := split_len hs; have := h.len; omega) (by decide)
  | false => exact sdepth_low A n c B zs w h (.inr hs) _ (by rw [depF_no hs, hs]; rfl)
theorem idepthW (A : Option Addr) (n c B : Nat) (zs : List Int) (w : World) (h : Arg w B A n c zs) : Calls Try.prog 24 #[.slice A n c] w (fun e w' => e = .returned (.int .i64 (depF 7 zs)) ∧ Below w.heap.size w w') := by
  cases hs : splitOK zs with
  | true => exact idepth_any 7 A n c B zs w h (by have := split_len hs; have := h.len; omega) (by decide)
  | false =>
    have H0 := hide (grow_no A n c B zs w h hs)
    rw [depF_no hs]
    clear h hs
    go_enter Try.func24, Try.ntmps24
    go_wp2_with fail
    refine (unhide H0).mono ?_
    rintro e w2 ⟨rfl, hb2⟩
    clear H0
    go_wp2
    go_ret
    exact ⟨rfl, hb2⟩
end Go.Proofs.Ytffdnpgalpcigaa


/-
  markIntSS turns its own rows alone: the frame of a change between two blocks.
-/

namespace Go.Proofs.Ytffdnpgalpcigaa
set_option maxRecDepth 100000
open Go.RowKit

/-- Nothing outside the blocks from B up to U has turned. -/
structure Turned (B U : Nat) (w w' : World) : Prop where
  os : w'.os = w.os
  tape : w'.tape = w.tape
  output : w'.output = w.output
  size : w.heap.size ≤ w'.heap.size
  block : ∀ i, i < w.heap.size → (i < B ∨ U ≤ i) → w'.heap[i]? = w.heap[i]?
theorem Turned.refl (B U : Nat) (w : World) : Turned B U w w := ⟨rfl, rfl, rfl, Nat.le_refl _, fun _ _ _ => rfl⟩
theorem Turned.grown {B U : Nat} {w0 w w' : World} {row : Option Nat} (h : Turned B U w0 w) (hg : w.grownBy w' row) (hr : ∀ k, row = some k → B ≤ k ∧ k < U) : Turned B U w0 w' :=
  ⟨hg.os.trans h.os, hg.tape.trans h.tape, hg.output.trans h.output, Nat.le_trans h.size hg.size, fun i hi ho =>
    (hg.block i (Nat.lt_of_lt_of_le hi h.size) (fun e => by have := hr i e.symm; omega)).trans (h.block i hi ho)⟩
theorem Turned.below {B U : Nat} {w w' : World} (h : Turned B U w w') (hB : B ≤ w.heap.size) : Below B w w' := ⟨h.os, h.tape, h.output, h.size, fun i hi => h.block i (by omega) (.inl hi)⟩
theorem Row.turned {B U B0 n : Nat} {w w' : World} {v : Value} {xs : List Value} (h : Row w B0 v n xs) (hk : ∀ k, v.ownBlock = some k → k < B ∨ U ≤ k) (ht : Turned B U w w') : Row w' B0 v n xs := by
  refine ⟨h.1, ?_⟩
  rcases h.2 with hn | ⟨g, cap, cur, e, rfl, hb, hgg, rest⟩
  · exact .inl hn
  · exact .inr ⟨g, cap, cur, e, rfl, hb, (ht.block g (Array.getElem?_eq_some_iff.1 hgg).1 (hk g rfl)).trans hgg, rest⟩
theorem own_turned {B U B0 n : Nat} {w w' : World} {e : TypeId} {v : Value} {xs : List Value} (h : w.ownsRow B0 e 1 v n xs) (hk : ∀ k, v.ownBlock = some k → k < B ∨ U ≤ k) (ht : Turned B U w w') : w'.ownsRow B0 e 1 v n xs := by
  refine ⟨h.1, ?_⟩
  rcases h.2 with hn | ⟨g, cap, cur, rfl, hb, hgg, rest⟩
  · exact .inl hn
  · exact .inr ⟨g, cap, cur, rfl, hb, (ht.block g (Array.getElem?_eq_some_iff.1 hgg).1 (hk g rfl)).trans hgg, rest⟩
theorem Ints.turnLow {B U B0 U0 : Nat} {w w' : World} {v : Value} {zs : List Int} (h : Ints w B0 v zs) (hu : Until U0 v) (ht : Turned B U w w') (hU : U0 ≤ B) : Ints w' B0 v zs := Row.turned h (fun k hk => .inl (Nat.lt_of_lt_of_le (hu k hk) hU)) ht
theorem Ints.turnHigh {B U B0 : Nat} {w w' : World} {v : Value} {zs : List Int} (h : Ints w B0 v zs) (ht : Turned B U w w') (hU : U ≤ B0) : Ints w' B0 v zs := Row.turned h (fun k hk => .inr (Nat.le_trans hU (h.since k hk))) ht
theorem Sealed.turnLow {B U B0 U0 : Nat} {w w' : World} {v : Value} {zss : List (List Int)} (h : Sealed w B0 U0 v zss) (ht : Turned B U w w') (hU : U0 ≤ B) : Sealed w' B0 U0 v zss := by
  obtain ⟨vs, h1, h2, h3, h4⟩ := h
  exact ⟨vs, own_turned h1 (fun k hk => .inl (Nat.lt_of_lt_of_le (h3 k hk) hU)) ht, ⟨h2.len, fun i u zs hu hz => (h2.row i u zs hu hz).turnLow (h4 u (List.mem_of_getElem? hu)) ht hU, h2.away⟩, h3, h4⟩
theorem Sealed.turnHigh {B U B0 U0 : Nat} {w w' : World} {v : Value} {zss : List (List Int)} (h : Sealed w B0 U0 v zss) (ht : Turned B U w w') (hU : U ≤ B0) : Sealed w' B0 U0 v zss := by
  obtain ⟨vs, h1, h2, h3, h4⟩ := h
  exact ⟨vs, own_turned h1 (fun k hk => .inr (Nat.le_trans hU (h1.lt k hk).1)) ht, ⟨h2.len, fun i u zs hu hz => (h2.row i u zs hu hz).turnHigh ht hU, h2.away⟩, h3, h4⟩
set_option maxHeartbeats 800000 in
/-- markIntSS at a list of rows of the call's own. -/
theorem markss_in (A : Option Addr) (n c B U k : Nat) (K : Int) (hK : K = (k : Int)) (zss : List (List Int)) (w : World) (h : Sealed w B U (.slice A n c) zss) (hkn : k + tot zss ≤ 1099511627776) (hn : n ≤ 1048576) :
    Calls Try.prog 28 #[.slice A n c, .int .i64 K] w fun e w' => e = .returned (.int .i64 (K + (tot zss : Int))) ∧ Sealed w' B U (.slice A n c) (mkS k zss) ∧ Turned B U w w' := by
  subst hK
  have hl := h.opened.len
  obtain ⟨vs, hown, hin, hV1, hV2⟩ := h
  rw [hl] at hown
  have HA := hide hin.away
  have HV := hide hin.len
  have HL := hide hl
  have HV1 := hide hV1
  have HV2 := hide hV2
  have hh := hide (Half.start k hin)
  clear hin hl hV1 hV2
  go_enter Try.func28, Try.ntmps28
  go_wp2
  go_loopw [1, 5] (fun kv i wr => ∃ j : Nat, j ≤ n ∧ kv = .int .i64 ((k + tot (zss.take j) : Nat) : Int) ∧ i = .int .i64 j ∧ Turned B U w wr ∧ wr.ownsRow B 22 1 (.slice A n c) n vs ∧ Hid (Half wr B vs k zss j)) (fun _ i _ => n - (intOf i).toNat)
  case atStart => exact ⟨0, Nat.zero_le _, rfl, rfl, Turned.refl _ _ _, hown, hh⟩
  case round =>
    obtain ⟨j, hj, rfl, rfl, hb, hown', hhf⟩ := hrel
    clear hown hh
    have htt := tot_take zss j
    by_cases hlt : j < n
    · obtain ⟨ad, u, rfl, _, hu, hc⟩ := (Reads.of_own_at hown').at_ hlt
      obtain ⟨zs, hz⟩ : ∃ zs, zss[j]? = some zs := ⟨_, List.getElem?_eq_getElem (by rw [unhide HL]; exact hlt)⟩
      have hts := tot_step hz
      have htt2 := tot_take zss (j + 1)
      have hI := unhide hhf j u zs hu hz
      rw [if_neg (by omega)] at hI
      have hun := unhide HV2 u (List.mem_of_getElem? hu)
      obtain ⟨A1, c1, rfl⟩ := hI.slice
      have H1 := hide (marki_at A1 zs.length c1 B (k + tot (zss.take j)) _ rfl zs wr hI (by omega))
      have hne := rows_apart hown' hI
      have hsi := hI.since
      have HU := hide hu
      have HZ := hide hz
      have HT := hide hts
      obtain ⟨t, ht⟩ : ∃ t, t = tot (zss.take j) := ⟨_, rfl⟩
      rw [← ht] at H1 HT htt ⊢
      have HTT := hide ht
      have hs0 : k + t + zs.length ≤ 1099511627776 := by have h1 := unhide HT; omega
      clear hu hz hts ht hI htt2
      go_wp2_with fail
      refine (unhide H1).mono ?_
      rintro e w2 ⟨rfl, hm, hg⟩
      have hb2 := hb.grown hg (fun q hq => ⟨hsi q hq, hun q hq⟩)
      have hown2 := World.ownsRow.kept hown' hg hne
      have hh2 := hide (Half.step (unhide hhf) (unhide HA) (unhide HU) (unhide HZ) (by rw [← unhide HTT]; exact hm) hg)
      clear H1 hown' hb hm hg hne hhf
      go_wp2
      go_roundw
      case rel => exact ⟨j + 1, by omega, by rw [unhide HT]; go_num, by go_num, hb2, hown2, hh2⟩
      case measure => simp [intOf]; omega
    · obtain rfl : n = j := by omega
      have e : zss.take n = zss := List.take_of_length_le (by rw [unhide HL]; exact Nat.le_refl _)
      rw [e]
      have hdn : Inner wr B vs (mkS k zss) := Half.done (by rw [unhide HL]; exact unhide hhf) (unhide HV) (unhide HA)
      have hI : Sealed wr B U (.slice A n c) (mkS k zss) := ⟨vs, by rw [mkS_length, unhide HL]; exact hown', hdn, unhide HV1, unhide HV2⟩
      clear hown' hhf hdn e
      go_wp2
      go_ret
      exact ⟨ret_int (by omega), hI, hb⟩
theorem small_of_tot {p : List (List Int)} (h : p.length + tot p ≤ 1048576) (hs : ∀ z ∈ p, z.length ≤ maxLen ∧ Small z) : ∀ z ∈ p, z.length ≤ 1048576 ∧ Small z := fun z hz => by
  obtain ⟨i, hi, rfl⟩ := List.getElem_of_mem hz
  have := tot_at (List.getElem?_eq_getElem hi)
  exact ⟨by omega, (hs _ hz).2⟩
end Go.Proofs.Ytffdnpgalpcigaa


/-
  Structs of a row and a list of rows in laws: the words for them; markIntSS by what it turns; eqInflation, markInflation, heldInflation by their contracts.
-/

namespace Go.Proofs.Ytffdnpgalpcigaa
set_option maxRecDepth 100000
open Go.RowKit

/-- Nothing but the blocks of these rows has turned. -/
structure OnlyRows (vs : List Value) (w w' : World) : Prop where
  os : w'.os = w.os
  tape : w'.tape = w.tape
  output : w'.output = w.output
  size : w.heap.size ≤ w'.heap.size
  block : ∀ i, i < w.heap.size → (∀ x ∈ vs, x.ownBlock ≠ some i) → w'.heap[i]? = w.heap[i]?
theorem OnlyRows.refl (vs : List Value) (w : World) : OnlyRows vs w w := ⟨rfl, rfl, rfl, Nat.le_refl _, fun _ _ _ => rfl⟩
theorem OnlyRows.grown {vs : List Value} {w0 w w' : World} {u : Value} (h : OnlyRows vs w0 w) (hg : w.grownBy w' u.ownBlock) (hu : u ∈ vs) : OnlyRows vs w0 w' :=
  ⟨hg.os.trans h.os, hg.tape.trans h.tape, hg.output.trans h.output, Nat.le_trans h.size hg.size, fun i hi ho =>
    (hg.block i (Nat.lt_of_lt_of_le hi h.size) (fun e => ho u hu e.symm)).trans (h.block i hi ho)⟩
theorem Row.only {vs : List Value} {w w' : World} {B n : Nat} {v : Value} {xs : List Value} (h : Row w B v n xs) (ht : OnlyRows vs w w') (ha : ∀ x ∈ vs, Away x v) : Row w' B v n xs := by
  refine ⟨h.1, ?_⟩
  rcases h.2 with hn | ⟨g, cap, cur, e, rfl, hb, hgg, rest⟩
  · exact .inl hn
  · refine .inr ⟨g, cap, cur, e, rfl, hb, (ht.block g (Array.getElem?_eq_some_iff.1 hgg).1 (fun x hx e => ?_)).trans hgg, rest⟩
    rcases ha x hx with h0 | h0
    · rw [h0] at e; cases e
    · exact h0 e
theorem OnlyRows.turned {vs : List Value} {w w' : World} {B U : Nat} (h : OnlyRows vs w w') (hs : ∀ x ∈ vs, Since B x ∧ Until U x) : Turned B U w w' :=
  ⟨h.os, h.tape, h.output, h.size, fun i hi ho => h.block i hi fun x hx e => by have h1 := (hs x hx).1 i e; have h2 := (hs x hx).2 i e; omega⟩
theorem Turned.trans {B U : Nat} {a b c : World} (h : Turned B U a b) (k : Turned B U b c) : Turned B U a c :=
  ⟨k.os.trans h.os, k.tape.trans h.tape, k.output.trans h.output, Nat.le_trans h.size k.size, fun i hi ho => (k.block i (Nat.lt_of_lt_of_le hi h.size) ho).trans (h.block i hi ho)⟩
theorem Turned.of_below {B U S : Nat} {w w' : World} (h : Below S w w') (hS : w.heap.size ≤ S) : Turned B U w w' := ⟨h.os, h.tape, h.output, h.size, fun i hi _ => h.block i (Nat.lt_of_lt_of_le hi hS)⟩
theorem Turned.of_grown {B U : Nat} {w w' : World} {row : Option Nat} (hg : w.grownBy w' row) (hr : ∀ k, row = some k → B ≤ k ∧ k < U) : Turned B U w w' := (Turned.refl B U w).grown hg hr
theorem Whole.turned {w w' : World} {g : Nat} {t : TypeId} {cs : Array Value} {B U : Nat} (h : Whole w g t cs) (ht : Turned B U w w') (hg : g < B ∨ U ≤ g) : Whole w' g t cs := (ht.block g h.lt hg).trans h

set_option maxHeartbeats 800000 in
/-- markIntSS at a list of rows of the call's own: its rows alone turn. -/
theorem markss_only (A : Option Addr) (n c B k : Nat) (K : Int) (hK : K = (k : Int)) (zss : List (List Int)) (vs : List Value) (w : World) (hown : w.ownsRow B 22 1 (.slice A n c) n vs) (hin : Inner w B vs zss) (hl : zss.length = n) (hkn : k + tot zss ≤ 1099511627776) (hn : n ≤ 1048576) :
    Calls Try.prog 28 #[.slice A n c, .int .i64 K] w fun e w' => e = .returned (.int .i64 (K + (tot zss : Int))) ∧ w'.ownsRow B 22 1 (.slice A n c) n vs ∧ Inner w' B vs (mkS k zss) ∧ OnlyRows vs w w' := by
  subst hK
  have HA := hide hin.away
  have HV := hide hin.len
  have HL := hide hl
  have hh := hide (Half.start k hin)
  clear hin hl
  go_enter Try.func28, Try.ntmps28
  go_wp2
  go_loopw [1, 5] (fun kv i wr => ∃ j : Nat, j ≤ n ∧ kv = .int .i64 ((k + tot (zss.take j) : Nat) : Int) ∧ i = .int .i64 j ∧ OnlyRows vs w wr ∧ wr.ownsRow B 22 1 (.slice A n c) n vs ∧ Hid (Half wr B vs k zss j)) (fun _ i _ => n - (intOf i).toNat)
  case atStart => exact ⟨0, Nat.zero_le _, rfl, rfl, OnlyRows.refl _ _, hown, hh⟩
  case round =>
    obtain ⟨j, hj, rfl, rfl, hb, hown', hhf⟩ := hrel
    clear hown hh
    have htt := tot_take zss j
    by_cases hlt : j < n
    · obtain ⟨ad, u, rfl, _, hu, hc⟩ := (Reads.of_own_at hown').at_ hlt
      obtain ⟨zs, hz⟩ : ∃ zs, zss[j]? = some zs := ⟨_, List.getElem?_eq_getElem (by rw [unhide HL]; exact hlt)⟩
      have hts := tot_step hz
      have htt2 := tot_take zss (j + 1)
      have hI := unhide hhf j u zs hu hz
      rw [if_neg (by omega)] at hI
      have hum := List.mem_of_getElem? hu
      obtain ⟨A1, c1, rfl⟩ := hI.slice
      have H1 := hide (marki_at A1 zs.length c1 B (k + tot (zss.take j)) _ rfl zs wr hI (by omega))
      have hne := rows_apart hown' hI
      have HU := hide hu
      have HZ := hide hz
      have HT := hide hts
      obtain ⟨t, ht⟩ : ∃ t, t = tot (zss.take j) := ⟨_, rfl⟩
      rw [← ht] at H1 HT htt ⊢
      have HTT := hide ht
      have hs0 : k + t + zs.length ≤ 1099511627776 := by have h1 := unhide HT; omega
      clear hu hz hts ht hI htt2
      go_wp2_with fail
      refine (unhide H1).mono ?_
      rintro e w2 ⟨rfl, hm, hg⟩
      have hb2 := hb.grown hg hum
      have hown2 := World.ownsRow.kept hown' hg hne
      have hh2 := hide (Half.step (unhide hhf) (unhide HA) (unhide HU) (unhide HZ) (by rw [← unhide HTT]; exact hm) hg)
      clear H1 hown' hb hm hg hne hhf hum
      go_wp2
      go_roundw
      case rel => exact ⟨j + 1, by omega, by rw [unhide HT]; go_num, by go_num, hb2, hown2, hh2⟩
      case measure => simp [intOf]; omega
    · obtain rfl : n = j := by omega
      have e : zss.take n = zss := List.take_of_length_le (by rw [unhide HL]; exact Nat.le_refl _)
      rw [e]
      have hdn : Inner wr B vs (mkS k zss) := Half.done (by rw [unhide HL]; exact unhide hhf) (unhide HV) (unhide HA)
      clear hhf e
      go_wp2
      go_ret
      exact ⟨ret_int (by omega), hown', hdn, hb⟩

/-- A struct of a row and a list of rows from block B on, below block U. -/
def XSeal (w : World) (B U : Nat) (rv pv : Value) (root : List Int) (pcs : List (List Int)) : Prop :=
  Ints w B rv root ∧ Until U rv ∧ ∃ vs, w.ownsRow B 22 1 pv pcs.length vs ∧ Inner w B vs pcs ∧ (∀ x ∈ vs, Away x rv) ∧ Until U pv ∧ ∀ x ∈ vs, Until U x
section
variable {w w' : World} {B U : Nat} {rv pv : Value} {root : List Int} {pcs : List (List Int)}
theorem InfAt.sealed (h : InfAt w B rv pv root pcs) : XSeal w B w.heap.size rv pv root pcs := by
  obtain ⟨h1, vs, h2, h3, h4⟩ := h
  refine ⟨h1, h1.until_, vs, h2, h3, h4, fun k hk => (h2.lt k hk).2, fun x hx => ?_⟩
  obtain ⟨zs, hz⟩ := h3.mem hx
  exact hz.until_
theorem XSeal.opened (h : XSeal w B U rv pv root pcs) : InfAt w B rv pv root pcs := by
  obtain ⟨h1, _, vs, h2, h3, h4, _⟩ := h
  exact ⟨h1, vs, h2, h3, h4⟩
theorem XSeal.below (h : XSeal w B U rv pv root pcs) (hb : Below w.heap.size w w') : XSeal w' B U rv pv root pcs := by
  obtain ⟨h1, u1, vs, h2, h3, h4⟩ := h
  exact ⟨h1.below hb, u1, vs, own_below h2 hb, h3.keepI (KeepI.of_below hb), h4⟩
theorem XSeal.after {u : Value} {E : Nat} (h : XSeal w B U rv pv root pcs) (hg : w.grownBy w' u.ownBlock) (hu : Until E u) (hE : E ≤ B) : XSeal w' B U rv pv root pcs := by
  obtain ⟨h1, u1, vs, h2, h3, h4⟩ := h
  refine ⟨h1.kept hg (apart' h1.since hu hE), u1, vs, h2.kept hg (apart' (fun k hk => (h2.lt k hk).1) hu hE), ⟨h3.len, fun i x zs hx hz => ?_, h3.away⟩, h4⟩
  have hr := h3.row i x zs hx hz
  exact hr.kept hg (apart' hr.since hu hE)
theorem XSeal.turnLow {B0 U0 : Nat} (h : XSeal w B0 U0 rv pv root pcs) (ht : Turned B U w w') (hU : U0 ≤ B) : XSeal w' B0 U0 rv pv root pcs := by
  obtain ⟨h1, u1, vs, h2, h3, h4, h5, h6⟩ := h
  exact ⟨h1.turnLow u1 ht hU, u1, vs, own_turned h2 (fun k hk => .inl (Nat.lt_of_lt_of_le (h5 k hk) hU)) ht, ⟨h3.len, fun i u zs hu hz => (h3.row i u zs hu hz).turnLow (h6 u (List.mem_of_getElem? hu)) ht hU, h3.away⟩, h4, h5, h6⟩
theorem XSeal.turnHigh {B0 U0 : Nat} (h : XSeal w B0 U0 rv pv root pcs) (ht : Turned B U w w') (hU : U ≤ B0) : XSeal w' B0 U0 rv pv root pcs := by
  obtain ⟨h1, u1, vs, h2, h3, h4⟩ := h
  exact ⟨h1.turnHigh ht hU, u1, vs, own_turned h2 (fun k hk => .inr (Nat.le_trans hU (h2.lt k hk).1)) ht, ⟨h3.len, fun i u zs hu hz => (h3.row i u zs hu hz).turnHigh ht hU, h3.away⟩, h4⟩
end

theorem tot_upto {c : Nat} : ∀ {l : List (List Int)}, (∀ z ∈ l, z.length ≤ c) → tot l ≤ l.length * c
  | [], _ => by simp [tot]
  | z :: r, h => by
    have h1 := tot_upto (l := r) fun y hy => h y (List.mem_cons_of_mem _ hy)
    have h2 := h z (by simp)
    have h3 : tot (z :: r) = z.length + tot r := by simp [tot]
    rw [h3, List.length_cons, Nat.succ_mul]
    omega
theorem root_sizes (p : List Int) : (rootR p).length ≤ 1048576 ∧ (pcsR p).length ≤ 1048576 ∧ tot (pcsR p) ≤ 1048576 := by
  cases h : splitOK p with
  | false => rw [rootR_no h, pcsR_no h]; decide
  | true =>
    have hp := (splitOK_all h).1
    have h8 := isP_le hp
    have h1 := rootP_len hp
    have h2 := pcsP_len hp
    have h3 := tot_upto (l := pcsP p) (c := 8) fun z hz => by have := (pcsP_at hp z hz).2.2.1; omega
    rw [rootR_yes h, pcsR_yes h]
    omega
set_option maxHeartbeats 800000 in
theorem eqinf_any (A P A' P' : Option Addr) (n c m d n' c' m' d' B B' : Nat) (root : List Int) (pcs : List (List Int)) (w : World) (h : InfAt w B (.slice A n c) (.slice P m d) root pcs) (h' : InfAt w B' (.slice A' n' c') (.slice P' m' d') root pcs)
    (hr : root.length ≤ 1048576) (hp : pcs.length ≤ 1048576) (ht : tot pcs ≤ 1048576) :
    Calls Try.prog 12 #[.agg #[.slice A n c, .slice P m d], .agg #[.slice A' n' c', .slice P' m' d']] w (GivesB w true) := by
  have b1' := (Below.refl _ w).alloc (Nat.le_refl _) (.cells #[.slice A n c, .slice P m d] 25)
  have b2' := b1'.alloc (by simp) (.cells #[.slice A' n' c', .slice P' m' d'] 25)
  have g1 := (Whole.new w 25 #[.slice A n c, .slice P m d]).alloc (.cells #[.slice A' n' c', .slice P' m' d'] 25)
  have g2 := Whole.new (w.alloc (.cells #[.slice A n c, .slice P m d] 25)) 25 #[.slice A' n' c', .slice P' m' d']
  simp only [World.size_alloc] at g2
  have i1 := h.below b2'
  have i2 := h'.below b2'
  have l1 := i1.row.len
  have l2 := i1.pcs.intsS.len
  have H1 := hide (eqi_any A A' n c n' c' _ _ root _ i1.row.reads i2.row.reads (by omega))
  have HI := hide (And.intro i1 i2)
  clear b1' i1 i2 h h'
  go_enter Try.func12, Try.ntmps12
  go_wp2_with fail
  refine (unhide H1).mono ?_
  rintro e w3 ⟨rfl, hd⟩
  have hb3 := b2'.trans (hd.below _)
  have k1 := (Whole.below g1 (hd.below (w.heap.size + 2)) (by omega)).cell 1
  have k2 := (Whole.below g2 (hd.below (w.heap.size + 2)) (by omega)).cell 1
  simp only [List.getElem?_toArray, List.getElem?_cons_zero, List.getElem?_cons_succ] at k1 k2
  have H2 := hide (eqss_any P P' m d m' d' _ _ pcs w3 ((unhide HI).1.below (hd.below _)).pcs.intsS ((unhide HI).2.below (hd.below _)).pcs.intsS (by omega) (by omega))
  clear H1 hd b2' g1 g2 HI
  go_wp2_with fail
  refine (unhide H2).mono ?_
  rintro e w4 ⟨rfl, hd4⟩
  have hb5 := hb3.trans (hd4.below _)
  clear H2 hd4 hb3
  go_wp2
  go_ret
  exact ⟨rfl, hb5⟩
set_option maxHeartbeats 800000 in
theorem markinf_in (A P : Option Addr) (n c m d B U k : Nat) (K : Int) (hK : K = (k : Int)) (root : List Int) (pcs : List (List Int)) (w : World) (h : XSeal w B U (.slice A n c) (.slice P m d) root pcs) (hU : U ≤ w.heap.size)
    (hp : pcs.length ≤ 1048576) (hkn : k + root.length + tot pcs ≤ 1099511627776) :
    Calls Try.prog 15 #[.agg #[.slice A n c, .slice P m d], .int .i64 K] w fun e w' => e = .returned (.int .i64 (K + (root.length : Int) + (tot pcs : Int))) ∧
      XSeal w' B U (.slice A n c) (.slice P m d) (marksI k root.length) (mkS (k + root.length) pcs) ∧ Turned B U w w' := by
  subst hK
  have hO := h.opened
  have l1 := hO.row.len
  have l2 := hO.pcs.intsS.len
  have b1 := (Below.refl _ w).alloc (Nat.le_refl _) (.cells #[.slice A n c, .slice P m d] 25)
  have g1 := Whole.new w 25 #[.slice A n c, .slice P m d]
  obtain ⟨x1, u1, vs, x2, x3, x4, x5, x6⟩ := h.below b1
  have H1 := hide (marki_at A n c B k _ rfl root _ x1 (by omega))
  subst l1
  subst l2
  have HX := hide (And.intro x1 (And.intro x2 (And.intro x3 (And.intro x4 (And.intro u1 (And.intro x5 x6))))))
  have HT := hide (Turned.of_below (B := B) (U := U) b1 (Nat.le_refl _))
  clear hO h b1 x1 u1 x2 x3 x4 x5 x6
  go_enter Try.func15, Try.ntmps15
  go_wp2_with fail
  refine (unhide H1).mono ?_
  rintro e w3 ⟨rfl, hm, hg⟩
  obtain ⟨x1, x2, x3, x4, u1, x5, x6⟩ := unhide HX
  have g3 := g1.grown hg (fun e => by have := u1 _ e.symm; omega)
  have k1 := g3.cell 1
  simp only [List.getElem?_toArray, List.getElem?_cons_zero, List.getElem?_cons_succ] at k1
  have o2 := x2.kept hg (rows_apart x2 x1)
  have o3 : Inner w3 B vs pcs := ⟨x3.len, fun i x zs hx hz => (x3.row i x zs hx hz).kept hg (x4 x (List.mem_of_getElem? hx)), x3.away⟩
  have t3 := (unhide HT).trans (Turned.of_grown (B := B) (U := U) hg (fun k hk => ⟨x1.since k hk, u1 k hk⟩))
  have H2 := hide (markss_only P pcs.length d B (k + root.length) ((k : Int) + (root.length : Int)) (by omega) pcs vs w3 o2 o3 rfl (by omega) (by omega))
  have HY := hide (And.intro hm (And.intro t3 o3))
  clear H1 HT hm hg g3 x1 x2 x3 x4 u1 x5 x6 o2 o3 t3 g1
  go_wp2_with fail
  refine (unhide H2).mono ?_
  rintro e w4 ⟨rfl, y2, y3, y4⟩
  obtain ⟨x1, x2, x3, x4, u1, x5, x6⟩ := unhide HX
  obtain ⟨hm, t3, o3⟩ := unhide HY
  have hz : XSeal w4 B U (.slice A root.length c) (.slice P pcs.length d) (marksI k root.length) (mkS (k + root.length) pcs) :=
    ⟨Row.only hm y4 x4, u1, vs, by rw [mkS_length]; exact y2, y3, x4, x5, x6⟩
  have t4 := t3.trans (y4.turned (B := B) (U := U) (fun x hx => by
    obtain ⟨zs, hz⟩ := o3.mem hx
    exact ⟨hz.since, x6 x hx⟩))
  clear x1 x2 x3 x4 u1 x5 x6 hm t3 o3 y2 y3 y4 H2 HX HY
  go_wp2
  go_ret
  exact ⟨rfl, hz, t4⟩
set_option maxHeartbeats 800000 in
theorem heldinf_any (A P : Option Addr) (n c m d B k : Nat) (K : Int) (hK : K = (k : Int)) (r : Nat) (pcs : List (List Int)) (w : World) (h : InfAt w B (.slice A n c) (.slice P m d) (marksI k r) (mkS (k + r) pcs))
    (hp : pcs.length ≤ 1048576) (hkn : k + r + tot pcs ≤ 1099511627776) :
    Calls Try.prog 16 #[.agg #[.slice A n c, .slice P m d], .int .i64 K] w fun e w' => e = .returned (.int .i64 (K + (r : Int) + (tot pcs : Int))) ∧ Below w.heap.size w w' := by
  subst hK
  have b1 := (Below.refl _ w).alloc (Nat.le_refl _) (.cells #[.slice A n c, .slice P m d] 25)
  have g1 := Whole.new w 25 #[.slice A n c, .slice P m d]
  have hO := h.below b1
  have l1 := hO.row.len
  have l2 := hO.pcs.intsS.len
  rw [marksI_length] at l1
  rw [mkS_length] at l2
  subst l1
  subst l2
  have H1 := hide (heldi_at A r c _ k _ rfl _ hO.row.reads (by omega))
  have H2 := hide (heldss_any P pcs.length d B (k + r) ((k : Int) + (r : Int)) (by omega) pcs _ hO.pcs.intsS (by omega) (by omega))
  have k1 := g1.cell 1
  simp only [List.getElem?_toArray, List.getElem?_cons_zero, List.getElem?_cons_succ] at k1
  clear h hO
  go_enter Try.func16, Try.ntmps16
  go_wp2_with fail
  refine (unhide H1).mono ?_
  rintro e w3 ⟨rfl, rfl⟩
  clear H1
  go_wp2_with fail
  refine (unhide H2).mono ?_
  rintro e w4 ⟨rfl, rfl⟩
  clear H2
  go_wp2
  go_ret
  exact ⟨rfl, b1⟩
end Go.Proofs.Ytffdnpgalpcigaa


/-
  spec.l6Same, spec.EqualInflation, by their contracts.
-/

namespace Go.Proofs.Ytffdnpgalpcigaa
set_option maxRecDepth 100000
open Go.RowKit

theorem keep2 {wr w : World} {p q : Addr} {v u : Value} (h : wr.cell? p = some v) (h' : wr.cell? q = some u) (hp : p.block < wr.heap.size) (hq : q.block < wr.heap.size) (hb : Below wr.heap.size wr w) : w.cell? p = some v ∧ w.cell? q = some u ∧ Below wr.heap.size wr w :=
  ⟨(hb.cell hp).trans h, (hb.cell hq).trans h', hb⟩
set_option maxHeartbeats 800000 in
theorem l6same_any (A A' : Option Addr) (n c n' c' : Nat) (pss qss : List (List Int)) (b : Bool) (hb : decide (pss = qss) = b) (w : World) (hS : AtS w A n pss) (hS' : AtS w A' n' qss) (hn : n ≤ 1048576) (hn' : n' ≤ 1048576) :
    Calls Try.prog 43 #[.slice A n c, .slice A' n' c'] w fun e w' => e = .returned (.bool b) ∧ Drew w w' := by
  have hl := hS.1
  have hl' := hS'.1
  by_cases hne : n = n'
  · subst hne
    have HL := hide hl
    have HL' := hide hl'
    have HB := hide hb
    have HS := hide hS
    have HS' := hide hS'
    clear hl hl' hb hS hS'
    go_enter Try.func43, Try.ntmps43
    go_wp2
    go_loopw [5] (fun i wr => ∃ k : Nat, k ≤ n ∧ i = .int .i64 k ∧ Drew w wr ∧ Hid (pss.take k = qss.take k)) (fun i _ => n - (intOf i).toNat)
    case atStart => exact ⟨0, Nat.zero_le _, rfl, Drew.refl _, by simp [Hid]⟩
    case round =>
      obtain ⟨k, hk, rfl, hd, hP⟩ := hrel
      by_cases hlt : k < n
      · obtain ⟨ad, A1, c1, z, rfl, hz, hcell, hA⟩ := (unhide HS).2 wr (hd.below _) k hlt
        obtain ⟨ad', A2, c2, y, rfl, hy, hcell', hA'⟩ := (unhide HS').2 wr (hd.below _) k hlt
        obtain ⟨b1, hb1⟩ : ∃ b, decide (z = y) = b := ⟨_, rfl⟩
        have H1 := hide (fun w' (hd' : Below wr.heap.size wr w') => l2same_any A1 A2 z.length c1 wr.heap.size y.length c2 wr.heap.size z y b1 hb1 w' (hA.below hd') (hA'.below hd'))
        have HZ := hide (And.intro hz hy)
        have HB1 := hide hb1
        have hb0 := Below.refl wr.heap.size wr
        have hd0 := Drew.refl wr
        clear hz hy hb1 hA hA'
        have hp1 := block_lt_of_cell hcell
        have hp2 := block_lt_of_cell hcell'
        go_wp2
        go_region_held3 (fun w' => w'.cell? (ad.add k) = some (.slice A1 z.length c1) ∧ w'.cell? (ad'.add k) = some (.slice A2 y.length c2) ∧ Below wr.heap.size wr w') ((refine keep2 hcell hcell' hp1 hp2 ?_; first | assumption | (apply Below.drew; assumption)))
          ((go_simp; go_at_call 42; refine (unhide H1 _ (by first | assumption | (apply Below.drew; assumption))).mono ?_; rintro e w3 ⟨rfl, hd3⟩;
              have hb5 : Below wr.heap.size wr w3 := (hb0.drew).trans (hd3.below _)))
        have hd4 : Drew w w3 := (show Drew w wr.drew from hd.more 1).trans hd3
        clear hb5 hd3 hd0 hb0 hp1 hp2 hcell hcell' H1
        cases b1 with
        | false =>
          obtain rfl : b = false := (unhide HB).symm.trans (by
            rw [decide_eq_false_iff_not]
            rintro rfl
            have h1 := (unhide HZ).1.symm.trans (unhide HZ).2
            injection h1 with h1
            exact (of_decide_eq_false (unhide HB1)) h1)
          clear HB hP
          go_wp2
          go_ret
          exact ⟨rfl, hd4⟩
        | true =>
          have hnext : Hid (pss.take (k + 1) = qss.take (k + 1)) := hide (by
            rw [List.take_add_one, List.take_add_one, unhide hP, (unhide HZ).1, (unhide HZ).2, of_decide_eq_true (unhide HB1)])
          clear hP HZ
          go_wp2
          go_roundw
          case rel => exact ⟨k + 1, by omega, by go_num, hd4, hnext⟩
          case measure => simp [intOf]; omega
      · obtain rfl : n = k := by omega
        obtain rfl : b = true := (unhide HB).symm.trans (by
          have h := unhide hP
          rw [List.take_of_length_le (by rw [unhide HL]; exact Nat.le_refl _), List.take_of_length_le (by rw [unhide HL']; exact Nat.le_refl _)] at h
          simp [h])
        clear HB hP
        go_wp2
        go_ret
        exact ⟨rfl, hd⟩
  · obtain rfl : b = false := hb.symm.trans (by
      rw [decide_eq_false_iff_not]
      rintro rfl
      exact hne (hl.symm.trans hl'))
    have h1 : ¬ (n : Int) = (n' : Int) := by omega
    clear hl hl' hb hS hS'
    go_enter Try.func43, Try.ntmps43
    go_wp2
    go_ret
    exact ⟨rfl, Drew.refl _⟩

set_option maxHeartbeats 1600000 in
theorem seqinf_any (A P A' P' : Option Addr) (n c B m d n' c' B' m' d' : Nat) (p q : List Int) (pss qss : List (List Int)) (b : Bool) (hb : (decide (p = q) && decide (pss = qss)) = b) (w : World) (h : Arg w B A n c p) (h' : Arg w B' A' n' c' q)
    (hS : AtS w P m pss) (hS' : AtS w P' m' qss) (hm : m ≤ 1048576) (hm' : m' ≤ 1048576) :
    Calls Try.prog 18 #[.agg #[.slice A n c, .slice P m d], .agg #[.slice A' n' c', .slice P' m' d']] w (GivesB w b) := by
  obtain ⟨b1, hb1⟩ : ∃ b, decide (p = q) = b := ⟨_, rfl⟩
  obtain ⟨b2, hb2⟩ : ∃ b, decide (pss = qss) = b := ⟨_, rfl⟩
  have H1 := hide (fun w' (hb' : Below w.heap.size w w') => l2same_any A A' n c B n' c' B' p q b1 hb1 w' (h.below hb') (h'.below hb'))
  have H2 := hide (fun w' (hb' : Below w.heap.size w w') => l6same_any P P' m d m' d' pss qss b2 hb2 w' (hS.below hb') (hS'.below hb') hm hm')
  rw [hb1, hb2] at hb
  clear hb1 hb2 h h' hS hS'
  have b1' := (Below.refl _ w).alloc (Nat.le_refl _) (.cells #[.slice A n c, .slice P m d] 25)
  have b2' := b1'.alloc (by simp) (.cells #[.slice A' n' c', .slice P' m' d'] 25)
  have g1 := (Whole.new w 25 #[.slice A n c, .slice P m d]).alloc (.cells #[.slice A' n' c', .slice P' m' d'] 25)
  have g2 := Whole.new (w.alloc (.cells #[.slice A n c, .slice P m d] 25)) 25 #[.slice A' n' c', .slice P' m' d']
  simp only [World.size_alloc] at g2
  clear b1'
  go_enter Try.func18, Try.ntmps18
  go_wp2_with fail
  refine (unhide H1 _ b2').mono ?_
  rintro e w3 ⟨rfl, hd⟩
  have hb3 := b2'.trans (hd.below _)
  have k1 := (Whole.below g1 (hd.below (w.heap.size + 2)) (by omega)).cell 1
  have k2 := (Whole.below g2 (hd.below (w.heap.size + 2)) (by omega)).cell 1
  simp only [List.getElem?_toArray, List.getElem?_cons_zero, List.getElem?_cons_succ] at k1 k2
  clear H1 hd b2' g1 g2
  cases b1 with
  | false =>
    obtain rfl : b = false := by simpa using hb.symm
    clear hb
    go_wp2
    go_ret
    exact ⟨rfl, hb3⟩
  | true =>
    obtain rfl : b = b2 := by simpa using hb.symm
    clear hb
    go_wp2_with fail
    refine (unhide H2 _ hb3).mono ?_
    rintro e w4 ⟨rfl, hd4⟩
    have hb5 := hb3.trans (hd4.below _)
    clear H2 hd4 hb3
    go_wp2
    go_ret
    exact ⟨rfl, hb5⟩
end Go.Proofs.Ytffdnpgalpcigaa


/-
  slices.EqualFunc under slices.Equal, impl.EqualInflation, by their contracts.
-/

namespace Go.Proofs.Ytffdnpgalpcigaa
set_option maxRecDepth 100000
open Go.RowKit

set_option maxHeartbeats 800000 in
theorem eqfunc_any (A A' : Option Addr) (n c n' c' : Nat) (pss qss : List (List Int)) (b : Bool) (hb : decide (pss = qss) = b) (w : World) (hS : AtS w A n pss) (hS' : AtS w A' n' qss) (hn : n ≤ 1048576) (hn' : n' ≤ 1048576) :
    Calls Try.prog 46 #[.slice A n c, .slice A' n' c', .func (.func 45) #[] #[]] w fun e w' => e = .returned (.bool b) ∧ Drew w w' := by
  have hl := hS.1
  have hl' := hS'.1
  by_cases hne : n = n'
  · subst hne
    have HL := hide hl
    have HL' := hide hl'
    have HB := hide hb
    have HS := hide hS
    have HS' := hide hS'
    clear hl hl' hb hS hS'
    go_enter Try.func46, Try.ntmps46
    go_wp2
    go_loopw [7, 8, 9, 17] (fun _ _ _ i wr => ∃ k : Nat, k ≤ n ∧ i = .int .i64 k ∧ Drew w wr ∧ Hid (pss.take k = qss.take k)) (fun _ _ _ i _ => n - (intOf i).toNat)
    case atStart => exact ⟨0, Nat.zero_le _, rfl, Drew.refl _, by simp [Hid]⟩
    case round =>
      obtain ⟨k, hk, rfl, hd, hP⟩ := hrel
      by_cases hlt : k < n
      · obtain ⟨ad, A1, c1, z, rfl, hz, hcell, hA⟩ := (unhide HS).2 wr (hd.below _) k hlt
        obtain ⟨ad', A2, c2, y, rfl, hy, hcell', hA'⟩ := (unhide HS').2 wr (hd.below _) k hlt
        obtain ⟨b1, hb1⟩ : ∃ b, decide (z = y) = b := ⟨_, rfl⟩
        have H1 := hide (fun w' (hd' : Below wr.heap.size wr w') => eqsl_any A1 A2 z.length c1 wr.heap.size y.length c2 wr.heap.size z y b1 hb1 w' (hA.below hd') (hA'.below hd'))
        have HZ := hide (And.intro hz hy)
        have HB1 := hide hb1
        clear hz hy hb1 hA hA'
        go_wp2_with fail
        refine (unhide H1 _ (Below.refl _ _)).mono ?_
        rintro e w3 ⟨rfl, hd3⟩
        have hd4 : Drew w w3 := hd.trans hd3
        clear hd3 hcell hcell' H1
        cases b1 with
        | false =>
          obtain rfl : b = false := (unhide HB).symm.trans (by
            rw [decide_eq_false_iff_not]
            rintro rfl
            have h1 := (unhide HZ).1.symm.trans (unhide HZ).2
            injection h1 with h1
            exact (of_decide_eq_false (unhide HB1)) h1)
          clear HB hP
          go_wp2
          go_ret
          exact ⟨rfl, hd4⟩
        | true =>
          have hnext : Hid (pss.take (k + 1) = qss.take (k + 1)) := hide (by
            rw [List.take_add_one, List.take_add_one, unhide hP, (unhide HZ).1, (unhide HZ).2, of_decide_eq_true (unhide HB1)])
          clear hP HZ
          go_wp2
          go_roundw
          case rel => exact ⟨k + 1, by omega, by go_num, hd4, hnext⟩
          case measure => simp [intOf]; omega
      · obtain rfl : n = k := by omega
        obtain rfl : b = true := (unhide HB).symm.trans (by
          have h := unhide hP
          rw [List.take_of_length_le (by rw [unhide HL]; exact Nat.le_refl _), List.take_of_length_le (by rw [unhide HL']; exact Nat.le_refl _)] at h
          simp [h])
        clear HB hP
        go_wp2
        go_ret
        exact ⟨rfl, hd⟩
  · obtain rfl : b = false := hb.symm.trans (by
      rw [decide_eq_false_iff_not]
      rintro rfl
      exact hne (hl.symm.trans hl'))
    have h1 : ¬ (n : Int) = (n' : Int) := by omega
    clear hl hl' hb hS hS'
    go_enter Try.func46, Try.ntmps46
    go_wp2
    go_ret
    exact ⟨rfl, Drew.refl _⟩

set_option maxHeartbeats 1600000 in
theorem ieqinf_any (A P A' P' : Option Addr) (n c B m d n' c' B' m' d' : Nat) (p q : List Int) (pss qss : List (List Int)) (b : Bool) (hb : (decide (p = q) && decide (pss = qss)) = b) (w : World) (h : Arg w B A n c p) (h' : Arg w B' A' n' c' q)
    (hS : AtS w P m pss) (hS' : AtS w P' m' qss) (hm : m ≤ 1048576) (hm' : m' ≤ 1048576) :
    Calls Try.prog 20 #[.agg #[.slice A n c, .slice P m d], .agg #[.slice A' n' c', .slice P' m' d']] w (GivesB w b) := by
  obtain ⟨b1, hb1⟩ : ∃ b, decide (p = q) = b := ⟨_, rfl⟩
  obtain ⟨b2, hb2⟩ : ∃ b, decide (pss = qss) = b := ⟨_, rfl⟩
  have H1 := hide (fun w' (hb' : Below w.heap.size w w') => eqsl_any A A' n c B n' c' B' p q b1 hb1 w' (h.below hb') (h'.below hb'))
  have H2 := hide (fun w' (hb' : Below w.heap.size w w') => eqfunc_any P P' m d m' d' pss qss b2 hb2 w' (hS.below hb') (hS'.below hb') hm hm')
  rw [hb1, hb2] at hb
  clear hb1 hb2 h h' hS hS'
  have b1' := (Below.refl _ w).alloc (Nat.le_refl _) (.cells #[.slice A n c, .slice P m d] 25)
  have b2' := b1'.alloc (by simp) (.cells #[.slice A' n' c', .slice P' m' d'] 25)
  have g1 := (Whole.new w 25 #[.slice A n c, .slice P m d]).alloc (.cells #[.slice A' n' c', .slice P' m' d'] 25)
  have g2 := Whole.new (w.alloc (.cells #[.slice A n c, .slice P m d] 25)) 25 #[.slice A' n' c', .slice P' m' d']
  simp only [World.size_alloc] at g2
  clear b1'
  go_enter Try.func20, Try.ntmps20
  go_wp2_with fail
  refine (unhide H1 _ b2').mono ?_
  rintro e w3 ⟨rfl, hd⟩
  have hb3 := b2'.trans (hd.below _)
  have k1 := (Whole.below g1 (hd.below (w.heap.size + 2)) (by omega)).cell 1
  have k2 := (Whole.below g2 (hd.below (w.heap.size + 2)) (by omega)).cell 1
  simp only [List.getElem?_toArray, List.getElem?_cons_zero, List.getElem?_cons_succ] at k1 k2
  clear H1 hd b2' g1 g2
  cases b1 with
  | false =>
    obtain rfl : b = false := by simpa using hb.symm
    clear hb
    go_wp2
    go_ret
    exact ⟨rfl, hb3⟩
  | true =>
    obtain rfl : b = b2 := by simpa using hb.symm
    clear hb
    go_wp2_with fail
    refine (unhide H2 _ hb3).mono ?_
    rintro e w4 ⟨rfl, hd4⟩
    have hb5 := hb3.trans (hd4.below _)
    clear H2 hd4 hb3
    go_wp2
    go_ret
    exact ⟨rfl, hb5⟩
end Go.Proofs.Ytffdnpgalpcigaa


/-
  STRUCTS OF A ROW AND A LIST OF ROWS AS ARGUMENTS: how they read; szInflation, toInflation by their contracts.
-/

namespace Go.Proofs.Ytffdnpgalpcigaa
set_option maxRecDepth 100000
open Go.RowKit Go.ChangeShapes Go.WideShapes Go.ChangeAt

/-- A field []int, as 'Reads'. -/
theorem open_ints_cell {H : Type} {enc : TypeId × Value → H} {P : Program} {w : World} {t e : TypeId} {v : Value} {y : DataW H × List MemPlace} {k : Nat} (ht : P.underlying t = some (.slice e)) (he : P.underlying e = some (.int .i64)) (hc : P.cellsOf e = 1)
    (hf : DataW.trod enc P w 0 (fun _ => true) true k t [v] = some y) (hlt : ∀ x ∈ y.2, x.block < w.heap.size) :
    ∃ (A : Option Addr) (n c : Nat) (zs : List Int), v = .slice A n c ∧ Reads w w.heap.size A n (i64s zs) ∧ n ≤ maxLen ∧ Small zs := by
  rcases open_ints ht he hc hf with ⟨hcs, hx⟩ | ⟨a, len', cap', zs, hcs, _, hl, hm, hz, hx, hcell, hws⟩
  · injection hcs with hcs
    subst hcs
    exact ⟨none, 0, 0, [], rfl, Reads.none_, Nat.zero_le _, fun z hz => by simp at hz⟩
  · injection hcs with hcs
    subst hcs
    subst hx
    simp only [if_true] at hz
    refine ⟨some a, len', cap', zs.take len', rfl, ⟨by rw [i64_length, List.length_take]; omega, fun hn => ⟨a, rfl, lt_of_row (j := 0) hlt (by omega), fun j u hu => ?_⟩⟩, by omega, small_of_wf fun z hz => hws z (List.mem_of_mem_take hz)⟩
    unfold i64s at hu
    rw [List.getElem?_map, List.getElem?_take] at hu
    by_cases hj : j < len'
    · rw [if_pos hj] at hu
      rw [hcell j (by omega), ← hu, List.getD_eq_getElem?_getD]
      have : zs[j]? = some zs[j] := List.getElem?_eq_getElem (by omega)
      rw [this]; rfl
    · rw [if_neg hj] at hu; cases hu

/-- A field [][]int, as 'ReadsS'. -/
theorem open_intss_cell {H : Type} {enc : TypeId × Value → H} {P : Program} {w : World} {t e ei : TypeId} {v : Value} {y : DataW H × List MemPlace} {k : Nat} (ht : P.underlying t = some (.slice e)) (he : P.underlying e = some (.slice ei)) (hei : P.underlying ei = some (.int .i64)) (hc : P.cellsOf e = 1) (hci : P.cellsOf ei = 1)
    (hf : DataW.trod enc P w 0 (fun _ => true) true k t [v] = some y) (hlt : ∀ x ∈ y.2, x.block < w.heap.size) :
    ∃ (A : Option Addr) (n c : Nat) (zss : List (List Int)), v = .slice A n c ∧ ReadsS w w.heap.size A n zss ∧ n ≤ maxLen ∧ ∀ z ∈ zss, z.length ≤ maxLen ∧ Small z := by
  rcases DataW.trod_slice ht hf with ⟨hcs, hx⟩ | ⟨a, len', cap', elems, rest, m, _, hcs, hx, _, hl, hm, hlen, hel, _, _⟩
  · injection hcs with hcs
    subst hcs
    exact ⟨none, 0, 0, [], rfl, ⟨rfl, fun h => absurd h (by omega)⟩, Nat.zero_le _, by simp⟩
  · injection hcs with hcs
    subst hcs
    subst hx
    have each : ∀ i, i < len' → ∃ z : List Int, (∃ A' c', w.cell? (a.add i) = some (.slice A' z.length c') ∧ Reads w w.heap.size A' z.length (i64s z)) ∧ z.length ≤ maxLen ∧ Small z := by
      intro i hi
      have h1 := hel i hi
      rw [hc, Nat.mul_one, List.getElem?_eq_getElem (by omega), Option.bind_eq_some_iff] at h1
      obtain ⟨cs', hcs', htr⟩ := h1
      have hq : ∀ x ∈ (elems[i]'(by omega)).2, x.block < w.heap.size := fun x hx => hlt x (List.mem_append.2 (.inr (List.mem_flatMap.2 ⟨elems[i]'(by omega), List.mem_append.2 (.inl (List.getElem_mem _)), hx⟩)))
      rcases open_ints he hei hci htr with ⟨rfl, _⟩ | ⟨a', len'', cap'', zs, rfl, _, hl', hm', hz, hx', hcell, hws⟩
      · exact ⟨[], ⟨none, 0, cell_of_cells?_one hcs', Reads.none_⟩, Nat.zero_le _, fun z hz => by simp at hz⟩
      · simp only [if_true] at hz
        have e1 : (zs.take len'').length = len'' := by rw [List.length_take]; omega
        refine ⟨zs.take len'', ⟨some a', cap'', by rw [e1]; exact cell_of_cells?_one hcs', ?_⟩, by omega, small_of_wf fun z hz => hws z (List.mem_of_mem_take hz)⟩
        refine ⟨by rw [i64_length], fun hn => ⟨a', rfl, ?_, fun j u hu => ?_⟩⟩
        · rw [hx'] at hq
          exact lt_of_row (j := 0) hq (by omega)
        · unfold i64s at hu
          rw [List.getElem?_map, List.getElem?_take] at hu
          by_cases hj : j < len''
          · rw [if_pos hj] at hu
            rw [hcell j (by omega), ← hu, List.getD_eq_getElem?_getD]
            have : zs[j]? = some zs[j] := List.getElem?_eq_getElem (by omega)
            rw [this]; rfl
          · rw [if_neg hj] at hu; cases hu
    obtain ⟨zss, hz1, hz2⟩ := list_of len' each
    refine ⟨some a, len', cap', zss, rfl, ⟨hz1, fun hn => ⟨a, rfl, ?_, fun j z hz => (hz2 j z hz).1⟩⟩, by omega, fun z hz => ?_⟩
    · rw [hc] at hlt
      refine lt_of_row (m := (elems.length + rest.length) * 1) (j := 0) (fun x hx => hlt x (List.mem_append.2 (.inl hx))) (by omega)
    · obtain ⟨i, hi, rfl⟩ := List.getElem_of_mem hz
      exact (hz2 i _ (List.getElem?_eq_getElem hi)).2

def szX (L : Int) (n m : Nat) (pss : List (List Int)) : Int := if L < n + m + tot pss then -1 else L - n - m - tot pss
theorem szX_eq (L : Int) (n m : Nat) (pss : List (List Int)) : szX L n m pss = szR (L - n) m pss := by
  unfold szX szR
  by_cases h : L < n + m + tot pss
  · rw [if_pos h, if_pos (by omega)]
  · rw [if_neg h, if_neg (by omega)]
set_option maxHeartbeats 800000 in
theorem szinf_any (A P : Option Addr) (n c m d B : Nat) (pss : List (List Int)) (L : Int) (hL : 0 ≤ L ∧ L ≤ 1048576) (w : World) (hr : ReadsS w B P m pss) (hB : B ≤ w.heap.size) (hn : n ≤ maxLen) (hm : m ≤ maxLen) (hz : ∀ z ∈ pss, z.length ≤ maxLen) :
    Calls Try.prog 17 #[.agg #[.slice A n c, .slice P m d], .int .i64 L] w fun e w' => e = .returned (.int .i64 (szX L n m pss)) ∧ Below w.heap.size w w' := by
  have b1 := (Below.refl _ w).alloc (Nat.le_refl _) (.cells #[.slice A n c, .slice P m d] 34)
  have g1 := Whole.new w 34 #[.slice A n c, .slice P m d]
  have k1 := g1.cell 1
  simp only [List.getElem?_toArray, List.getElem?_cons_zero, List.getElem?_cons_succ] at k1
  have hr1 := hr.below (b1.mono hB)
  obtain ⟨hL1, hL2⟩ := hL
  have H1 := hide (szi_any A n c L ⟨hL1, hL2⟩ hn (w.alloc (.cells #[.slice A n c, .slice P m d] 34)))
  by_cases hlt : L < n
  · rw [if_pos hlt] at H1
    have hx : szX L n m pss = -1 := by unfold szX; rw [if_pos (by omega)]
    rw [hx]
    clear hr hr1 hz hx g1
    go_enter Try.func17, Try.ntmps17
    go_wp2_with fail
    refine (unhide H1).mono ?_
    rintro e w3 ⟨rfl, rfl⟩
    clear H1
    go_wp2
    go_ret
    exact ⟨rfl, b1⟩
  · rw [if_neg hlt] at H1
    have H2 := hide (sziss_any P m d B pss (L - (n : Int)) (by omega) _ hr1 hm hz)
    have hx : szX L n m pss = szR (L - n) m pss := szX_eq L n m pss
    obtain ⟨r, hr0⟩ : ∃ r, szR (L - n) m pss = r := ⟨_, rfl⟩
    rw [hx]
    rw [hr0] at H2 ⊢
    have hrr : r = -1 ∨ 0 ≤ r := by
      rw [← hr0]; unfold szR
      by_cases h : L - n < m + tot pss
      · rw [if_pos h]; exact .inl rfl
      · rw [if_neg h]; right; omega
    have h0 : ¬ L - (n : Int) < 0 := by omega
    clear hr hr1 hz hx g1 hr0
    go_enter Try.func17, Try.ntmps17
    go_wp2_with fail
    refine (unhide H1).mono ?_
    rintro e w3 ⟨rfl, rfl⟩
    clear H1
    go_wp2_with fail
    refine (unhide H2).mono ?_
    rintro e w4 ⟨rfl, rfl⟩
    clear H2
    rcases hrr with rfl | hr0
    · go_wp2
      go_ret
      exact ⟨rfl, b1⟩
    · have h1 : ¬ r < 0 := by omega
      go_wp2
      go_ret
      exact ⟨rfl, b1⟩
set_option maxHeartbeats 1600000 in
theorem toinf_any (A P : Option Addr) (n c m d B : Nat) (p : List Int) (pss : List (List Int)) (w : World) (hp : Reads w B A n (i64s p)) (hr : ReadsS w B P m pss) (hB : B ≤ w.heap.size) (hn : n ≤ 1048576) (hm : m ≤ 1048576) (hz : ∀ z ∈ pss, z.length ≤ 1048576) :
    Calls Try.prog 19 #[.agg #[.slice A n c, .slice P m d]] w (GivesX w p pss) := by
  have b1 := (Below.refl _ w).alloc (Nat.le_refl _) (.cells #[.slice A n c, .slice P m d] 34)
  have b2 := b1.alloc (by simp) (.cells #[.slice none 0 0, .slice none 0 0] 25)
  have b3 := b2.alloc (by simp; omega) (.cells #[.slice none 0 0, .slice none 0 0] 25)
  have g1 := ((Whole.new w 34 #[.slice A n c, .slice P m d]).alloc (.cells #[.slice none 0 0, .slice none 0 0] 25)).alloc (.cells #[.slice none 0 0, .slice none 0 0] 25)
  have g2 := (Whole.new (w.alloc (.cells #[.slice A n c, .slice P m d] 34)) 25 #[.slice none 0 0, .slice none 0 0]).alloc (.cells #[.slice none 0 0, .slice none 0 0] 25)
  have g3 := Whole.new ((w.alloc (.cells #[.slice A n c, .slice P m d] 34)).alloc (.cells #[.slice none 0 0, .slice none 0 0] 25)) 25 #[.slice none 0 0, .slice none 0 0]
  simp only [World.size_alloc] at g2 g3
  have H1 : Hid (Calls Try.prog 10 #[.slice A n c] (((w.alloc (.cells #[.slice A n c, .slice P m d] 34)).alloc (.cells #[.slice none 0 0, .slice none 0 0] 25)).alloc (.cells #[.slice none 0 0, .slice none 0 0] 25))
      (fun e w' => ∃ A' c', e = .returned (.slice A' n c') ∧ Ints w' (w.heap.size + 1 + 1 + 1) (.slice A' n c') p ∧ Below (w.heap.size + 1 + 1 + 1) (((w.alloc (.cells #[.slice A n c, .slice P m d] 34)).alloc (.cells #[.slice none 0 0, .slice none 0 0] 25)).alloc (.cells #[.slice none 0 0, .slice none 0 0] 25)) w')) :=
    hide ((toi_any A n c B p _ (hp.below (b3.mono hB)) (Nat.le_trans hB b3.size) (by omega)).mono (by
      rintro e w' ⟨rfl, o, d⟩
      simp only [World.size_alloc] at o d ⊢
      exact ⟨_, _, rfl, o, d⟩))
  have hr3 := hr.below (b3.mono hB)
  have hbB := b3.mono hB
  have HR := hide (And.intro hr3 hbB)
  have HL : Hid (p.length = n ∧ pss.length = m) := hide ⟨by have := hp.1; rwa [i64_length] at this, hr.len⟩
  clear b1 b2 hp hr hr3 hbB
  go_enter Try.func19, Try.ntmps19
  go_wp2_with fail
  refine (unhide H1).mono ?_
  rintro e w2 ⟨A2, c2, rfl, o2, d2⟩
  have hb2 := b3.trans (d2.mono (by omega))
  have e1 := g1.below d2 (by omega)
  have e2 := g2.below d2 (by omega)
  have e3 := g3.below d2 (by omega)
  have p1 := e1.cell 1
  have q0 := e3.cell 0
  have q1 := e3.cell 1
  have f0 := e3.frozen 0
  have l3 := e3.lt
  simp only [List.getElem?_toArray, List.getElem?_cons_zero, List.getElem?_cons_succ] at p1 q0 q1
  have l2 := d2.size
  simp only [World.size_alloc] at l2
  have i1 := e1.far (p := ⟨w.heap.size + 1 + 1, 0, none⟩) (by simp; omega) (.slice A2 n c2)
  have i2 := e2.far (p := ⟨w.heap.size + 1 + 1, 0, none⟩) (by simp) (.slice A2 n c2)
  have i3 := e3.put 0 (.slice A2 n c2)
  have o3 := o2.aside (p := ⟨w.heap.size + 1 + 1, 0, none⟩) (by simp) (.slice A2 n c2)
  have hb3 := hb2.setCell (p := ⟨w.heap.size + 1 + 1, 0, none⟩) (by simp; omega) (.slice A2 n c2)
  have H2 : Hid (Calls Try.prog 44 #[.slice P m d] (w2.setCell ⟨w.heap.size + 1 + 1, 0, none⟩ (.slice A2 n c2))
      (fun e w' => ∃ g, e = .returned (.slice (some ⟨g, 0, none⟩) m m) ∧ IntsS w' w2.heap.size (.slice (some ⟨g, 0, none⟩) m m) pss ∧ Below w2.heap.size (w2.setCell ⟨w.heap.size + 1 + 1, 0, none⟩ (.slice A2 n c2)) w')) := by
    have hr4 := (unhide HR).1.below ((d2.mono (show B ≤ _ by omega)).setCell (p := ⟨w.heap.size + 1 + 1, 0, none⟩) (by simp; omega) (.slice A2 n c2))
    refine hide ((toiss_any P m d B pss _ hr4 (by simp; omega) hm hz).mono ?_)
    rintro e w' ⟨g, rfl, o, d⟩
    simp only [World.size_setCell] at o d
    exact ⟨g, rfl, o, d⟩
  have hu2 := o2.until_
  clear H1 e1 e2 e3 hb2 b3 d2 o2 HR g1 g2 g3
  go_wp2_with fail
  refine (unhide H2).mono ?_
  rintro e w4 ⟨g, rfl, o4, d4⟩
  have j2 := i2.below d4 (by omega)
  have j3 := i3.below d4 (by omega)
  have hb4 := hb3.trans (d4.mono (by omega))
  have o5 := Row.stay o3 hu2 d4
  have hF0 : Fresh w4 w2.heap.size (.slice (some ⟨g, 0, none⟩) m m) pss (.slice A2 n c2) := by
    obtain ⟨vs, h1, h2⟩ := o4
    refine ⟨vs, h1, h2, fun x hx => ?_⟩
    obtain ⟨zs, hzz⟩ := h2.mem hx
    exact apart' hzz.since hu2 (Nat.le_refl _)
  have HI : Hid (InfAt w4 (w.heap.size + 1 + 1 + 1) (.slice A2 n c2) (.slice (some ⟨g, 0, none⟩) m m) p pss) := hide ⟨o5, hF0.low (by omega)⟩
  have q0 := j3.cell 0
  have q1 := j3.cell 1
  have f1 := j3.frozen 1
  have r0 := j2.cell 0
  have r1 := j2.cell 1
  have s0 := j2.frozen 0
  have s1 := j2.frozen 1
  have l4 := j3.lt
  simp only [List.setIfInBounds_toArray, List.set_cons_zero, List.getElem?_toArray, List.getElem?_cons_zero, List.getElem?_cons_succ] at q0 q1 r0 r1
  have HJ := hide (And.intro j2 j3)
  obtain ⟨hl1, hl2⟩ := unhide HL
  clear hF0 o5 o4 d4 hu2 H2 hb3 i1 i2 i3 o3 j2 j3 HL p1
  go_wp2
  have hWe := ((unhide HJ).1.far (p := ⟨w.heap.size + 1 + 1, 1, none⟩) (by simp) (.slice (some ⟨g, 0, none⟩) m m)).put 0 (.slice A2 n c2) |>.put 1 (.slice (some ⟨g, 0, none⟩) m m)
  refine bodyPost_ret (v := .agg #[.slice A2 n c2, .slice (some ⟨g, 0, none⟩) m m]) (results_cell_row Try.results19 _ _ (w.heap.size + 1) 25 _ (0, 0) _ rfl hWe Try.underlying25 rfl infInfo) rfl ?_
  refine GivesX.mk ((((unhide HI).aside (p := ⟨w.heap.size + 1 + 1, 1, none⟩) (by simp) _).aside (p := ⟨w.heap.size + 1, 0, none⟩) (by simp) _).aside (p := ⟨w.heap.size + 1, 1, none⟩) (by simp) _ |>.low (by omega)) ?_
  exact ((hb4.setCell (by simp; omega) _).setCell (by simp) _).setCell (by simp) _
end Go.Proofs.Ytffdnpgalpcigaa


/-
  PLAIN: the parts' lengths together; the roots of a tree. Nothing here speaks of the program.
-/

namespace Go.Proofs.Ytffdnpgalpcigaa
set_option maxRecDepth 100000

theorem sumPcs_tot {s : Bool} {l : List (List Int)} (hp : ∀ z ∈ l, isP z = true ∧ 0 < z.length) (hn : tot l ≤ 8) (h1 : 1 < l.length) : tot (sumPcs s l) = tot l ∧ (sumPcs s l).length = 2 := by
  match l, h1 with
  | x :: y :: r, _ =>
    have e1 : tot (x :: y :: r) = x.length + tot (y :: r) := by simp [tot]
    have hf : allFit (y :: r) = true := allFit_yes (fun z hz => (hp z (by simp at hz ⊢; right; exact hz)).1) (by omega)
    simp only [sumPcs, List.headD_cons, List.drop_succ_cons, List.drop_zero]
    rw [joinsR_yes hf]
    refine ⟨?_, rfl⟩
    have e2 : tot [x, joinAll s (y :: r)] = x.length + (joinAll s (y :: r)).length := by simp [tot]
    rw [e2, joinAll_length, e1]
theorem pcsOf_tot {p : List Int} (a : Nat) : a ≤ p.length → tot (pcsOf p (cuts p a)) = p.length - a := by
  induction a using cuts_ind (p := p) with
  | h0 a h =>
    intro ha
    rw [cuts_no h]
    have : tot (pcsOf p []) = 0 := by simp [pcsOf, tot]
    omega
  | h1 a h ih =>
    intro _
    have ht := topK_le p a (p.length - 1 - a)
    have hi := ih (by omega)
    rw [cuts_yes h]
    have e : tot (pcsOf p ((a, topK p a (p.length - 1 - a)) :: cuts p (a + topK p a (p.length - 1 - a) + 1))) = (patL (seg p a (topK p a (p.length - 1 - a) + 1))).length + tot (pcsOf p (cuts p (a + topK p a (p.length - 1 - a) + 1))) := by simp [pcsOf, tot]
    rw [e, hi, patL_length, seg_length (by omega)]
    omega
/-- The parts have all numbers; where there are two numbers, there are two parts. -/
theorem pcsP_tot {p : List Int} (hp : isP p = true) : tot (pcsP p) = p.length ∧ (2 ≤ p.length → 2 ≤ (pcsP p).length) := by
  have h8 := isP_le hp
  unfold pcsP
  by_cases h1 : p.length = 1
  · rw [if_pos h1]
    exact ⟨by simp [tot]; omega, fun h => by omega⟩
  · rw [if_neg h1]
    by_cases h2 : 1 < (partsR p).length
    · rw [if_pos h2]
      have ht := partsR_tot hp
      have := sumPcs_tot (s := false) (fun y hy => ⟨partsR_isP hy, partsR_pos hy⟩) (by omega) h2
      exact ⟨by omega, fun _ => by omega⟩
    · rw [if_neg h2]
      by_cases h3 : 1 < (skewsR p).length
      · rw [if_pos h3]
        have ht := skewsR_tot hp
        have := sumPcs_tot (s := true) (fun y hy => ⟨skewsR_isP hy, skewsR_pos hy⟩) (by omega) h3
        exact ⟨by omega, fun _ => by omega⟩
      · rw [if_neg h3]
        refine ⟨by rw [pcsOf_tot 0 (Nat.zero_le _)]; omega, fun h => ?_⟩
        have hk := topK_ne (p := p) (a := 0) h (p.length - 1 - 0)
        have hle := topK_le p 0 (p.length - 1 - 0)
        rw [cuts_yes (by omega), cuts_yes (by omega)]
        simp [pcsOf]

theorem rootP_isP {p : List Int} (hp : isP p = true) : isP (rootP p) = true := by
  unfold rootP sumRoot
  split
  · decide
  · split
    · decide
    · split
      · decide
      · rw [isP_pat]; exact tops_ok hp

/-- The roots of the nodes that have children, each before those of its parts; m is enough when it is not less than the length less one. -/
def rtsF : Nat → List Int → List (List Int)
  | 0, _ => []
  | m + 1, p => if p.length < 2 then [] else rootP p :: (pcsP p).flatMap (rtsF m)
theorem rtsF_low {m : Nat} {p : List Int} (h : p.length < 2) : rtsF m p = [] := by cases m <;> simp [rtsF, h]
theorem rtsF_many {m : Nat} {p : List Int} (h : ¬ p.length < 2) : rtsF (m + 1) p = rootP p :: (pcsP p).flatMap (rtsF m) := by simp [rtsF, h]
theorem flat_len {m : Nat} : ∀ {l : List (List Int)}, (∀ z ∈ l, (rtsF m z).length + 1 ≤ z.length) → (l.flatMap (rtsF m)).length + l.length ≤ tot l
  | [], _ => by simp [tot]
  | z :: r, h => by
    have h1 := flat_len (m := m) (l := r) fun y hy => h y (List.mem_cons_of_mem _ hy)
    have h2 := h z (by simp)
    have h3 : tot (z :: r) = z.length + tot r := by simp [tot]
    rw [List.flatMap_cons, List.length_append, List.length_cons]
    omega
theorem rtsF_len : ∀ (m : Nat) {p : List Int}, isP p = true → 0 < p.length → (rtsF m p).length + 1 ≤ p.length
  | 0, p, _, h0 => by rw [rtsF]; simp; omega
  | m + 1, p, hp, h0 => by
    by_cases h2 : p.length < 2
    · rw [rtsF_low h2]; simp; omega
    · rw [rtsF_many h2]
      have h1 := flat_len (m := m) (l := pcsP p) fun z hz => rtsF_len m (pcsP_at hp z hz).1 (pcsP_at hp z hz).2.1
      have h3 := pcsP_tot hp
      have h4 := h3.2 (by omega)
      rw [List.length_cons]
      omega
theorem rtsF_all : ∀ (m : Nat) {p : List Int}, isP p = true → ∀ z ∈ rtsF m p, isP z = true
  | 0, p, _, z, hz => by simp [rtsF] at hz
  | m + 1, p, hp, z, hz => by
    by_cases h2 : p.length < 2
    · rw [rtsF_low h2] at hz; cases hz
    · rw [rtsF_many h2] at hz
      rcases List.mem_cons.1 hz with rfl | hz
      · exact rootP_isP hp
      · obtain ⟨y, hy, hz⟩ := List.mem_flatMap.1 hz
        exact rtsF_all m (pcsP_at hp y hy).1 z hz
theorem rtsF_le {m : Nat} {p : List Int} (hp : isP p = true) : (rtsF m p).length ≤ 8 := by
  have h8 := isP_le hp
  by_cases h0 : 0 < p.length
  · have := rtsF_len m hp h0; omega
  · rw [rtsF_low (by omega)]; simp
/-- The first k parts' roots behind the root. -/
def rtsK (m : Nat) (p : List Int) (R : List (List Int)) (k : Nat) : List (List Int) := rootP p :: (R.take k).flatMap (rtsF m)
theorem rtsK_step {m k : Nat} {p z : List Int} {R : List (List Int)} (h : R[k]? = some z) : rtsK m p R (k + 1) = rtsK m p R k ++ rtsF m z := by
  unfold rtsK
  rw [List.take_add_one, h]
  simp
theorem rtsK_all {m : Nat} {p : List Int} {R : List (List Int)} : rtsK m p R R.length = rootP p :: R.flatMap (rtsF m) := by unfold rtsK; rw [List.take_length]
theorem flat_take_len {m k : Nat} {R : List (List Int)} : ((R.take k).flatMap (rtsF m)).length ≤ (R.flatMap (rtsF m)).length := by
  have h := congrArg (fun l => (l.flatMap (rtsF m)).length) (List.take_append_drop k R)
  simp only [List.flatMap_append, List.length_append] at h
  omega
def rtsR (p : List Int) : List (List Int) := if splitOK p then ordR (rtsF 7 p) else []
theorem rtsR_yes {p : List Int} (h : splitOK p = true) : rtsR p = (rtsF 7 p).foldl putL [] := by
  unfold rtsR
  rw [if_pos h, ordR_yes (allP_yes (rtsF_all 7 (splitOK_all h).1)), ordL, List.take_length]
theorem rtsR_no {p : List Int} (h : splitOK p = false) : rtsR p = [] := by unfold rtsR; rw [if_neg (by simp [h])]
theorem rtsR_len (p : List Int) : (rtsR p).length ≤ 8 := by
  cases h : splitOK p with
  | false => rw [rtsR_no h]; exact Nat.zero_le _
  | true =>
    have h1 := (foldl_put (rtsF 7 p) [] List.Pairwise.nil).2.2
    have h2 := rtsF_le (m := 7) (splitOK_all h).1
    rw [rtsR_yes h]
    simp only [List.length_nil] at h1
    omega
theorem rtsR_all {p z : List Int} (hz : z ∈ rtsR p) : isP z = true := by
  cases h : splitOK p with
  | false => rw [rtsR_no h] at hz; cases hz
  | true =>
    unfold rtsR at hz
    rw [if_pos h] at hz
    exact ordR_mem hz
theorem tot_le8' : ∀ l : List (List Int), (∀ z ∈ l, z.length ≤ 8) → tot l ≤ 8 * l.length
  | [], _ => by simp [tot]
  | z :: r, h => by
    have h1 := tot_le8' r fun y hy => h y (List.mem_cons_of_mem _ hy)
    have h2 := h z (by simp)
    have h3 : tot (z :: r) = z.length + tot r := by simp [tot]
    rw [h3, List.length_cons]; omega
theorem rtsR_tot (p : List Int) : tot (rtsR p) ≤ 64 := by
  have h1 := tot_le8' (rtsR p) fun z hz => isP_le (rtsR_all hz)
  have h2 := rtsR_len p
  omega
end Go.Proofs.Ytffdnpgalpcigaa


/-
  spec.l2Before, spec.l2Same; cmp.Compare, slices.Compare, cmp.Or, slices.Equal and impl.comparePerms, by their contracts.
-/

namespace Go.Proofs.Ytffdnpgalpcigaa
set_option maxRecDepth 100000
open Go.RowKit

/-! plain -/
/-- slices.Compare's answer. -/
def lexV : List Int → List Int → Int
  | [], [] => 0
  | [], _ :: _ => -1
  | _ :: _, [] => 1
  | x :: xs, y :: ys => if x = y then lexV xs ys else if x < y then -1 else 1
theorem lexV_at : ∀ {p q : List Int} {k : Nat} {x y : Int}, p.take k = q.take k → p[k]? = some x → q[k]? = some y → x ≠ y → lexV p q = if x < y then -1 else 1
  | a :: p, b :: q, 0, x, y, _, hx, hy, hne => by
    simp at hx hy
    subst hx; subst hy
    rw [lexV, if_neg hne]
  | a :: p, b :: q, k + 1, x, y, h, hx, hy, hne => by
    simp at h
    obtain ⟨rfl, h⟩ := h
    rw [lexV, if_pos rfl]
    exact lexV_at h (by simpa using hx) (by simpa using hy) hne
  | [], _, k, _, _, _, hx, _, _ => by simp at hx
  | _ :: _, [], k, _, _, _, _, hy, _ => by simp at hy
theorem lexV_end : ∀ {p q : List Int} {k : Nat}, p.take k = q.take k → (k = p.length ∨ k = q.length) → k ≤ p.length → k ≤ q.length → lexV p q = if p.length < q.length then -1 else if q.length < p.length then 1 else 0
  | [], [], _, _, _, _, _ => by simp [lexV]
  | [], y :: q, _, _, _, _, _ => by simp [lexV]
  | x :: p, [], _, _, _, _, _ => by simp [lexV]
  | x :: p, y :: q, 0, _, h, _, _ => by simp at h
  | x :: p, y :: q, k + 1, h, hk, h1, h2 => by
    simp at h
    obtain ⟨rfl, h⟩ := h
    rw [lexV, if_pos rfl, lexV_end h (by simpa using hk) (by simpa using h1) (by simpa using h2)]
    simp
theorem lexV_lexL : ∀ {p q : List Int}, p.length = q.length → decide (lexV p q < 0) = lexL p q
  | [], [], _ => rfl
  | [], _ :: _, h => by simp at h
  | _ :: _, [], h => by simp at h
  | x :: p, y :: q, h => by
    rw [lexV, lexL]
    by_cases e : x = y
    · rw [if_pos e, if_pos e]
      exact lexV_lexL (by simpa using h)
    · rw [if_neg e, if_neg e]
      by_cases hl : x < y <;> simp [hl]
theorem lexV_small : ∀ (p q : List Int), -1 ≤ lexV p q ∧ lexV p q ≤ 1
  | [], [] => by simp [lexV]
  | [], _ :: _ => by simp [lexV]
  | _ :: _, [] => by simp [lexV]
  | x :: p, y :: q => by
    rw [lexV]
    split
    · exact lexV_small p q
    · split <;> omega
def cmpI (x y : Int) : Int := if x < y then -1 else if y < x then 1 else 0
/-- impl.comparePerms's answer. -/
def cmpV (p q : List Int) : Int := if cmpI p.length q.length = 0 then lexV p q else cmpI p.length q.length
theorem cmpV_befL (p q : List Int) : decide (cmpV p q < 0) = befL p q := by
  unfold cmpV cmpI befL
  by_cases h1 : (p.length : Int) < q.length
  · rw [if_pos h1, if_neg (by omega), if_neg (by omega)]
    simp; omega
  · rw [if_neg h1]
    by_cases h2 : (q.length : Int) < p.length
    · rw [if_pos h2, if_neg (by omega), if_neg (by omega)]
      simp; omega
    · rw [if_neg h2, if_pos rfl, if_pos (by omega)]
      exact lexV_lexL (by omega)
theorem cmpV_small (p q : List Int) : -1 ≤ cmpV p q ∧ cmpV p q ≤ 1 := by
  have h := lexV_small p q
  have h2 : -1 ≤ cmpI p.length q.length ∧ cmpI p.length q.length ≤ 1 := by
    unfold cmpI
    split
    · omega
    · split <;> omega
  unfold cmpV
  split
  · exact h
  · exact h2

theorem below_sgrow (w : World) (k : Nat) (os : Array Obj) : Below w.heap.size w (Sort.grow (w.drewN k) os) :=
  ⟨rfl, rfl, rfl, by unfold Sort.grow; simp [World.drewN], fun i hi => by unfold Sort.grow; exact Array.getElem?_append_left hi⟩

/-! contracts -/
set_option maxHeartbeats 400000 in
theorem l2bef_any (A A' : Option Addr) (n c B n' c' B' : Nat) (p q : List Int) (b : Bool) (hb : befL p q = b) (w : World) (h : Arg w B A n c p) (h' : Arg w B' A' n' c' q) :
    Calls Try.prog 85 #[.slice A n c, .slice A' n' c'] w fun e w' => e = .returned (.bool b) ∧ Drew w w' := by
  have hl := h.len
  have hl' := h'.len
  have hn := h.le
  have hn' := h'.le
  have hr := h.reads
  have hr' := h'.reads
  clear h h'
  by_cases he : n = n'
  · subst he
    rw [befL_eq (by omega)] at hb
    have HB := hide hb
    have HL := hide hl
    have HL' := hide hl'
    clear hb hl hl'
    go_enter Try.func85, Try.ntmps85
    go_wp2
    go_loopw [5] (fun i wr => ∃ k : Nat, k ≤ n ∧ i = .int .i64 k ∧ Drew w wr ∧ Hid (p.take k = q.take k)) (fun i _ => n - (intOf i).toNat)
    case atStart => exact ⟨0, Nat.zero_le _, rfl, Drew.refl _, by exact (rfl : p.take 0 = q.take 0)⟩
    case round =>
      obtain ⟨k, hk, rfl, hd, hs⟩ := hrel
      by_cases hlt : k < n
      · obtain ⟨ad, u, rfl, _, hu, hc⟩ := (hr.ofDrew hd).at_ hlt
        obtain ⟨ad', u', rfl, _, hu', hc'⟩ := (hr'.ofDrew hd).at_ hlt
        obtain ⟨x, hx, rfl⟩ := i64_at hu
        obtain ⟨y, hy, rfl⟩ := i64_at hu'
        have HD := hide hd
        clear hu hu' hr hr' hd
        by_cases hxy : x = y
        · subst hxy
          have hnext := hide (take_same_step (unhide hs) hx hy)
          clear hx hy hs
          go_wp2
          go_quiet (fail)
          go_wp2
          go_roundw
          case rel => exact ⟨k + 1, by omega, by go_num, (unhide HD).more _, hnext⟩
          case measure => simp [intOf]; omega
        · have hat := (unhide HB).symm.trans (lexL_at (unhide hs) hx hy hxy)
          have hne : (x == y) = false := by simpa using hxy
          clear hx hy hs HB hxy
          have hcc := hc
          have hcc' := hc'
          have HAT := hide hat
          clear hat
          go_wp2
          go_quiet (fail)
          go_wp2
          go_quiet (fail)
          go_wp2
          go_ret
          exact ⟨ret_bool (unhide HAT).symm, ((unhide HD).more _).more _⟩
      · obtain rfl : n = k := by omega
        obtain rfl : b = false := (unhide HB).symm.trans (lexL_end (unhide hs) (unhide HL) (unhide HL'))
        clear HB hs
        go_wp2
        go_ret
        exact ⟨rfl, hd⟩
  · rw [befL_ne (by omega), hl, hl'] at hb
    have hne : ((n : Int) == (n' : Int)) = false := by simp; omega
    have HB := hide hb
    clear hb hl hl' hr hr'
    go_enter Try.func85, Try.ntmps85
    go_wp2
    go_ret
    exact ⟨ret_bool (by rw [← unhide HB]), Drew.refl _⟩
theorem nan_any (x : Int) (w : World) : Calls Try.prog 107 #[.int .i64 x] w fun e w' => e = .returned (.bool false) ∧ w = w' := by
  go_enter Try.func107, Try.ntmps107
  go_wp2
  go_ret
  exact ⟨rfl, rfl⟩
theorem cmp_lt (x y : Int) (h : x < y) (w : World) : Calls Try.prog 89 #[.int .i64 x, .int .i64 y] w fun e w' => e = .returned (.int .i64 (-1)) ∧ w = w' := by
  go_enter Try.func89, Try.ntmps89
  go_wp2_with ((with_reducible refine (nan_any _ _).mono ?_); rintro e w' ⟨rfl, rfl⟩)
  go_ret
  exact ⟨rfl, rfl⟩
theorem cmp_gt (x y : Int) (h : y < x) (w : World) : Calls Try.prog 89 #[.int .i64 x, .int .i64 y] w fun e w' => e = .returned (.int .i64 1) ∧ w = w' := by
  have h' : ¬ x < y := by omega
  go_enter Try.func89, Try.ntmps89
  go_wp2_with ((with_reducible refine (nan_any _ _).mono ?_); rintro e w' ⟨rfl, rfl⟩)
  go_ret
  exact ⟨rfl, rfl⟩
theorem cmp_eq (x : Int) (w : World) : Calls Try.prog 89 #[.int .i64 x, .int .i64 x] w fun e w' => e = .returned (.int .i64 0) ∧ w = w' := by
  have h' : ¬ x < x := by omega
  go_enter Try.func89, Try.ntmps89
  go_wp2_with ((with_reducible refine (nan_any _ _).mono ?_); rintro e w' ⟨rfl, rfl⟩)
  go_ret
  exact ⟨rfl, rfl⟩
theorem cmp_any (x y : Int) (w : World) : Calls Try.prog 89 #[.int .i64 x, .int .i64 y] w fun e w' => e = .returned (.int .i64 (cmpI x y)) ∧ w = w' := by
  unfold cmpI
  by_cases h1 : x < y
  · rw [if_pos h1]; exact cmp_lt x y h1 w
  · rw [if_neg h1]
    by_cases h2 : y < x
    · rw [if_pos h2]; exact cmp_gt x y h2 w
    · rw [if_neg h2]
      obtain rfl : x = y := by omega
      exact cmp_eq x w
set_option maxHeartbeats 400000 in
theorem compare_any (A A' : Option Addr) (n c B n' c' B' : Nat) (p q : List Int) (w : World) (h : Arg w B A n c p) (h' : Arg w B' A' n' c' q) :
    Calls Try.prog 90 #[.slice A n c, .slice A' n' c'] w fun e w' => e = .returned (.int .i64 (lexV p q)) ∧ w = w' := by
  obtain ⟨b, hb⟩ : ∃ b, lexV p q = b := ⟨_, rfl⟩
  have hl := h.len
  have hl' := h'.len
  have hn := h.le
  have hn' := h'.le
  have hr := h.reads
  have hr' := h'.reads
  clear h h'
  rw [hb]
  have HB := hide hb
  have HL := hide hl
  have HL' := hide hl'
  clear hb hl hl'
  go_enter Try.func90, Try.ntmps90
  go_wp2
  go_loop [5, 6, 7, 8, 11] (fun _ _ _ _ i => ∃ k : Nat, k ≤ n ∧ k ≤ n' ∧ i = .int .i64 k ∧ Hid (p.take k = q.take k)) (fun _ _ _ _ i => n - (intOf i).toNat)
  case atStart => exact ⟨0, Nat.zero_le _, Nat.zero_le _, rfl, by exact (rfl : p.take 0 = q.take 0)⟩
  case round =>
    obtain ⟨k, hk, hk', rfl, hs⟩ := hrel
    by_cases hlt : k < n
    · obtain ⟨ad, u, rfl, _, hu, hc⟩ := hr.at_ hlt
      obtain ⟨x, hx, rfl⟩ := i64_at hu
      by_cases hlt' : k < n'
      · obtain ⟨ad', u', rfl, _, hu', hc'⟩ := hr'.at_ hlt'
        obtain ⟨y, hy, rfl⟩ := i64_at hu'
        clear hu hu' hr hr'
        by_cases hxy : x = y
        · subst hxy
          have hnext := hide (take_same_step (unhide hs) hx hy)
          clear hx hy hs
          go_wp2_with ((with_reducible refine (cmp_eq _ _).mono ?_); rintro e w' ⟨rfl, rfl⟩)
          go_round
          case rel => exact ⟨k + 1, by omega, by omega, by go_num, hnext⟩
          case measure => simp [intOf]; omega
        · have hat := (unhide HB).symm.trans (lexV_at (unhide hs) hx hy hxy)
          by_cases hl : x < y
          · obtain rfl : b = -1 := by rw [hat]; simp [hl]
            clear hx hy hs HB hxy hat
            go_wp2_with ((with_reducible refine (cmp_lt _ _ hl _).mono ?_); rintro e w' ⟨rfl, rfl⟩)
            go_ret
            exact ⟨rfl, rfl⟩
          · have hg : y < x := by omega
            obtain rfl : b = 1 := by rw [hat]; simp [hl]
            clear hx hy hs HB hxy hat hl
            go_wp2_with ((with_reducible refine (cmp_gt _ _ hg _).mono ?_); rintro e w' ⟨rfl, rfl⟩)
            go_ret
            exact ⟨rfl, rfl⟩
      · obtain rfl : n' = k := by omega
        have hat := (unhide HB).symm.trans (lexV_end (unhide hs) (.inr (unhide HL').symm) (by rw [unhide HL]; omega) (by rw [unhide HL']; omega))
        rw [unhide HL, unhide HL', if_neg (by omega), if_pos hlt] at hat
        subst hat
        clear hu hx hs HB hr hr'
        go_wp2
        go_ret
        exact ⟨rfl, rfl⟩
    · obtain rfl : n = k := by omega
      have hat := (unhide HB).symm.trans (lexV_end (unhide hs) (.inl (unhide HL).symm) (by rw [unhide HL]; omega) (by rw [unhide HL']; omega))
      rw [unhide HL, unhide HL'] at hat
      clear HB hs hr hr'
      by_cases hlt' : n < n'
      · rw [if_pos hlt'] at hat
        subst hat
        go_wp2
        go_ret
        exact ⟨rfl, rfl⟩
      · rw [if_neg hlt', if_neg (by omega)] at hat
        subst hat
        go_wp2
        go_ret
        exact ⟨rfl, rfl⟩
def or2 (x y : Int) : Int := if x = 0 then y else x
theorem two_at {x y z : Int} {k : Nat} (h : [x, y][k]? = some z) : (k = 0 ∧ z = x) ∨ (k = 1 ∧ z = y) := by
  match k, h with
  | 0, h => simp at h; exact .inl ⟨rfl, h.symm⟩
  | 1, h => simp at h; exact .inr ⟨rfl, h.symm⟩
  | k + 2, h => simp at h
theorem cmpor_any (A : Option Addr) (c B : Nat) (x y : Int) (w : World) (hr : Reads w B A 2 (i64s [x, y])) :
    Calls Try.prog 88 #[.slice A 2 c] w fun e w' => e = .returned (.int .i64 (or2 x y)) ∧ w = w' := by
  obtain ⟨r, hrr⟩ : ∃ r, or2 x y = r := ⟨_, rfl⟩
  rw [hrr]
  have HR := hide hrr
  clear hrr
  go_enter Try.func88, Try.ntmps88
  go_wp2
  go_loop [5, 8] (fun _ i => ∃ k : Nat, k ≤ 2 ∧ i = .int .i64 k ∧ Hid (∀ j z, j < k → [x, y][j]? = some z → z = 0)) (fun _ i => 2 - (intOf i).toNat)
  case atStart => exact ⟨0, Nat.zero_le _, rfl, fun j z h => by omega⟩
  case round =>
    obtain ⟨k, hk, rfl, hz⟩ := hrel
    by_cases hlt : k < 2
    · obtain ⟨ad, u, rfl, _, hu, hc⟩ := hr.at_ hlt
      obtain ⟨v, hv, rfl⟩ := i64_at hu
      clear hu hr
      by_cases h0 : v = 0
      · subst h0
        have hn : Hid (∀ j z, j < k + 1 → [x, y][j]? = some z → z = 0) := fun j z hj h => by
          by_cases e : j = k
          · subst e
            rw [hv] at h
            exact (Option.some.inj h).symm
          · exact unhide hz j z (by omega) h
        clear hv hz
        go_wp2
        go_round
        case rel => exact ⟨k + 1, by omega, by go_num, hn⟩
        case measure => simp [intOf]; omega
      · obtain rfl : r = v := by
          rw [← unhide HR]
          unfold or2
          rcases two_at hv with ⟨rfl, rfl⟩ | ⟨rfl, rfl⟩
          · rw [if_neg h0]
          · rw [if_pos (unhide hz 0 x (by omega) rfl)]
        have hx' : (r != 0) = true := by simp [h0]
        clear h0 hv hz HR
        go_wp2
        go_ret
        exact ⟨rfl, rfl⟩
    · obtain rfl : k = 2 := by omega
      obtain rfl : r = 0 := by
        rw [← unhide HR]
        unfold or2
        rw [if_pos (unhide hz 0 x (by omega) rfl), unhide hz 1 y (by omega) rfl]
      clear hz HR hr
      go_wp2
      go_ret
      exact ⟨rfl, rfl⟩
theorem comparePerms_any (A A' : Option Addr) (n c B n' c' B' : Nat) (p q : List Int) (w : World) (h : Arg w B A n c p) (h' : Arg w B' A' n' c' q) :
    Calls Try.prog 75 #[.slice A n c, .slice A' n' c'] w fun e w' => e = .returned (.int .i64 (cmpV p q)) ∧ ∃ k os, w' = Sort.grow (w.drewN k) os := by
  have hv : or2 (cmpI n n') (lexV p q) = cmpV p q := by
    unfold or2 cmpV
    rw [h.len, h'.len]
  rw [← hv]
  have H1 := hide (cmp_any n n' w)
  have H2 := hide (compare_any A A' n c B n' c' B' p q w h h')
  clear hv h h'
  go_enter Try.func75, Try.ntmps75
  go_wp2_with fail
  refine (unhide H1).mono ?_
  rintro e w1 ⟨rfl, rfl⟩
  clear H1
  go_wp2_with fail
  refine (unhide H2).mono ?_
  rintro e w1 ⟨rfl, rfl⟩
  clear H2
  go_wp2_with fail
  have hR : Reads (w.alloc (.cells (i64s [cmpI n n', lexV p q]).toArray 3)) (w.heap.size + 1) (some ⟨w.heap.size, 0, none⟩) 2 (i64s [cmpI n n', lexV p q]) := ⟨rfl, fun _ => ⟨_, rfl, by simp, fun j u hu => by
    rw [show (⟨w.heap.size, 0, none⟩ : Addr).add j = ⟨w.heap.size, j, none⟩ by unfold Addr.add; split <;> simp_all, World.cell?_alloc_new]
    simpa using hu⟩⟩
  refine (cmpor_any _ 2 (w.heap.size + 1) _ _ _ hR).mono ?_
  rintro e w1 ⟨rfl, rfl⟩
  clear hR
  go_wp2
  go_ret
  exact ⟨rfl, 0, _, Sort.alloc_eq_grow _ _⟩
end Go.Proofs.Ytffdnpgalpcigaa
