
/-
  cmp.isNaN, cmp.Less, slices.IsSorted; spec.IsLayered, impl.IsLayered, by their contracts.
-/
import Derived.Test.YtjfdjjigamlhfaaParts
import Derived.Test.YtjfdjjigamlhfaaRev
import Derived.Test.YtjfdjjigamlhfaaTurn
import Derived.Test.YtjfdjjigamlhfaaIdent
import Derived.Test.YtjfdjjigamlhfaaSame
import Derived.Deep.RegionHeld3
namespace Go.Proofs.Ytjfdjjigamlhfaa
open Go.RowKit

theorem isP_upTo {n : Nat} (h : n ≤ 8) : isP (upTo n) = true := isP_true.2 ⟨by rw [upTo_length]; exact h, fun x hx => by rw [upTo_length]; exact mem_upTo.1 hx, upTo_nodup n⟩
theorem idR_nat {n : Nat} (h : n ≤ 8) : idR (n : Int) = upTo n := by
  by_cases h1 : 1 ≤ n
  · rw [idR_yes (by omega) (by omega)]; congr 1
  · obtain rfl : n = 0 := by omega
    rfl
theorem nan_any (a : Int) (w : World) : Calls Try.prog 73 #[.int .i64 a] w fun e w' => e = .returned (.bool false) ∧ w' = w := by
  go_enter Try.func73, Try.ntmps73
  go_wp2
  go_ret
  exact ⟨rfl, rfl⟩
theorem less2_any (a b : Int) (w : World) : Calls Try.prog 66 #[.int .i64 a, .int .i64 b] w fun e w' => e = .returned (.bool (decide (a < b))) ∧ w' = w := by
  go_enter Try.func66, Try.ntmps66
  go_wp2_with fail
  refine (nan_any _ _).mono ?_
  rintro e w1 ⟨rfl, rfl⟩
  go_wp2
  go_ret
  exact ⟨rfl, rfl⟩
/-- The places that slices.IsSorted looks at, from the end down to k. -/
def ascFrom (l : List Int) (k : Nat) : Prop := ∀ i, k ≤ i → i + 1 < l.length → at0 l i ≤ at0 l (i + 1)
def ascB (l : List Int) : Bool := decide (∀ i, i < l.length → i + 1 < l.length → at0 l i ≤ at0 l (i + 1))
theorem ascB_yes {l : List Int} (h : ascFrom l 0) : ascB l = true := by unfold ascB; rw [decide_eq_true_iff]; exact fun i _ h2 => h i (Nat.zero_le _) h2
theorem ascB_no {l : List Int} {i : Nat} (h : i + 1 < l.length) (h2 : at0 l (i + 1) < at0 l i) : ascB l = false := by
  unfold ascB; rw [decide_eq_false_iff_not]
  intro h3
  have := h3 i (by omega) h
  omega
theorem ascB_upTo {l : List Int} (h : isP l = true) : ascB l = decide (l = upTo l.length) := by
  by_cases e : l = upTo l.length
  · rw [decide_eq_true e]
    refine ascB_yes fun i _ hi => ?_
    have h1 : ∀ j, j < l.length → at0 l j = (j : Int) + 1 := fun j hj => by
      refine at0_of ?_
      rw [e]
      unfold upTo
      rw [List.getElem?_map, List.getElem?_range hj]
      rfl
    rw [h1 i (by omega), h1 (i + 1) hi]
    omega
  · rw [decide_eq_false e]
    unfold ascB; rw [decide_eq_false_iff_not]
    exact fun h3 => e (asc_upTo h fun i hi => h3 i (by omega) hi)

set_option maxHeartbeats 400000 in
theorem sorted_any (A : Option Addr) (n c B : Nat) (zs : List Int) (w : World) (h : Arg w B A n c zs) :
    Calls Try.prog 52 #[.slice A n c] w fun e w' => e = .returned (.bool (ascB zs)) ∧ Drew w w' := by
  have hl := h.len
  have hr := h.reads
  have hn := h.le
  have HL := hide hl
  clear h hl
  go_enter Try.func52, Try.ntmps52
  go_wp2
  go_loopw [3] (fun i wr => ∃ k : Nat, (k ≤ n) ∧ i = .int .i64 ((k : Int) - 1) ∧ Drew w wr ∧ Hid (ascFrom zs (k - 1))) (fun i _ => (intOf i).toNat)
  case atStart => exact ⟨n, Nat.le_refl _, rfl, Drew.refl _, fun i h1 h2 => by have := unhide HL; omega⟩
  case round =>
    obtain ⟨k, hk, rfl, hd, hs⟩ := hrel
    by_cases hk1 : 1 < k
    · obtain ⟨k, rfl⟩ : ∃ k', k = k' + 2 := ⟨k - 2, by omega⟩
      obtain ⟨ad, u, rfl, _, hu, hc⟩ := (hr.ofDrew hd).at_ (show k + 1 < n by omega)
      obtain ⟨x, hx, rfl⟩ := i64_at hu
      obtain ⟨ad2, u2, he, _, hu2, hc2⟩ := (hr.ofDrew hd).at_ (show k < n by omega)
      injection he with he
      subst he
      obtain ⟨y, hy, rfl⟩ := i64_at hu2
      have hax := at0_of hx
      have hay := at0_of hy
      clear hu hu2 hx hy
      have hi1 : (((k + 2 : Nat) : Int) - 1) = (k : Int) + 1 := by omega
      have q1 : IntKind.i64.wrap ((k : Int) + 1 - 1) = (k : Int) := by rw [IntKind.wrap_i64]; omega
      have q2 : IntKind.i64.wrap (k : Int) = (k : Int) := by rw [IntKind.wrap_i64]; omega
      have hbd0 : (0 : Int) ≤ (k : Int) + 1 := by omega
      have hbd1 : (k : Int) + 1 < (n : Int) := by omega
      have hbd2 : (k : Int) < (n : Int) := by omega
      have hadd : ad.add (k + 1) = ⟨ad.block, ad.off + (k + 1), none⟩ := by unfold Addr.add; rw [if_neg (by omega)]
      rw [hadd] at hc
      clear hadd
      rw [hi1]
      have HD := hide hd
      have HS := hide hs
      clear hi1 hd hs hr
      by_cases hlt : x < y
      · have hno := hide (ascB_no (l := zs) (i := k) (by rw [unhide HL]; omega) (by rw [hax, hay]; exact hlt))
        clear hax hay
        go_wp2
        go_quiet ((go_at_call 66; exact Calls.quiet_of_same (less2_any _ _ _)))
        go_wp2
        go_ret
        rw [unhide hno]
        exact ⟨rfl, (unhide HD).more _⟩
      · have hnext : Hid (ascFrom zs (k + 1 - 1)) := hide (fun i h1 h2 => by
          by_cases hik : i = k
          · subst hik; rw [hax, hay]; omega
          · exact unhide HS i (by omega) h2)
        clear hax hay
        go_wp2
        go_quiet ((go_at_call 66; exact Calls.quiet_of_same (less2_any _ _ _)))
        go_wp2
        go_roundw
        case rel => exact ⟨k + 1, by omega, by go_num, (unhide HD).more _, hnext⟩
        case measure => simp [intOf]
    · have hyes := hide (ascB_yes (l := zs) (fun i _ h2 => unhide hs i (by omega) h2))
      go_wp2
      go_ret
      rw [unhide hyes]
      exact ⟨rfl, hd⟩

set_option maxHeartbeats 800000 in
theorem ilayer_any (A : Option Addr) (n c B : Nat) (zs : List Int) (w : World) (h : Arg w B A n c zs) :
    Calls Try.prog 30 #[.slice A n c] w (GivesB w (layer zs)) := by
  obtain ⟨b, hb⟩ : ∃ b, isP zs = b := ⟨_, rfl⟩
  have H0 := hide (iisperm_any A n c B zs b hb w h.reads h.under h.le h.small)
  cases b with
  | false =>
    rw [layer_no hb]
    clear hb h
    go_enter Try.func30, Try.ntmps30
    go_wp2_with fail
    refine (unhide H0).mono ?_
    rintro e w1 ⟨rfl, hb⟩
    clear H0
    go_wp2
    go_ret
    exact ⟨rfl, hb⟩
  | true =>
    have H1 := hide (fun w' (hb' : Below w.heap.size w w') => iparts_any A n c B zs w' (h.below hb'))
    have hsm := (partsR_small zs).1
    have HA := hide (fun h2 => layer_yes hb h2)
    have HN := hide (fun z (hz : z ∈ partsR zs) h2 => layer_at hz h2)
    obtain ⟨ps, hps⟩ : ∃ ps, ps = partsR zs := ⟨_, rfl⟩
    have hpP : ∀ z ∈ ps, isP z = true := fun z hz => partsR_isP (by rw [← hps]; exact hz)
    rw [← hps] at hsm HA HN
    have HPS := hide hps
    have HPP := hide hpP
    clear hb h hps hpP
    go_enter Try.func30, Try.ntmps30
    go_wp2_with fail
    refine (unhide H0).mono ?_
    rintro e w1 ⟨rfl, hb1⟩
    have H2 := hide (unhide H1 w1 hb1)
    clear H0 H1
    go_wp2_with fail
    refine (unhide H2).mono ?_
    rintro e w2 ⟨A2, c2, rfl, own2, hb2⟩
    clear H2
    have hb3 := below_after hb1 hb2
    have own3 := own2.low hb1.size
    rw [← unhide HPS] at own3 ⊢
    clear own2 hb2 hb1
    go_wp2
    go_loopw [4, 11] (fun _ i wr => ∃ k : Nat, k ≤ ps.length ∧ i = .int .i64 k ∧ Below w.heap.size w wr ∧ IntsS wr w.heap.size (.slice A2 ps.length c2) ps ∧ Hid (∀ z ∈ ps.take k, z.reverse = upTo z.length)) (fun _ i _ => ps.length - (intOf i).toNat)
    case atStart => exact ⟨0, Nat.zero_le _, rfl, hb3, own3, fun z hz => by simp at hz⟩
    case round =>
      obtain ⟨k, hk, rfl, hbw, hL, hP⟩ := hrel
      clear own3 hb3
      by_cases hlt : k < ps.length
      · obtain ⟨ad, A1, c1, z, rfl, hz, hcell, hIz⟩ := hL.at_ hlt
        have hzP := unhide HPP z (List.mem_of_getElem? hz)
        have hrP := isP_rev hzP
        have H4 := hide (irev_any A1 z.length c1 _ z wr (hIz.argP hzP))
        rw [revR_yes hzP] at H4
        have H5 := hide (fun (A : Option Addr) (c B : Nat) (w' : World) (h : Arg w' B A z.reverse.length c z.reverse) => sorted_any A z.reverse.length c B z.reverse w' h)
        have hne := unhide HN z (List.mem_of_getElem? hz)
        rw [ascB_upTo hrP, List.length_reverse] at H5
        have HRP := hide hrP
        by_cases hup : z.reverse = upTo z.length
        · rw [decide_eq_true hup] at H5
          have hnext : Hid (∀ z ∈ ps.take (k + 1), z.reverse = upTo z.length) := hide (fun y hy => by
            rw [take_snoc_r hz] at hy
            rcases List.mem_append.1 hy with h | h
            · exact unhide hP y h
            · rw [List.mem_singleton] at h
              subst h
              exact hup)
          clear hz hIz hzP hrP hne hup hP
          go_wp2_with fail
          refine (unhide H4).mono ?_
          rintro e w3 ⟨A3, c3, rfl, own3, hb3⟩
          rw [List.length_reverse] at own3 ⊢
          have H6 := hide (unhide H5 _ _ _ _ (own3.argP (unhide HRP)))
          clear H4 H5
          go_wp2_with fail
          refine (unhide H6).mono ?_
          rintro e w4 ⟨rfl, hd⟩
          clear H6
          have hb4 := below_after hbw (below_after hb3 (hd.below _))
          have hL4 := (hL.below hb3).below (hd.below _)
          clear hbw hL hb3 hd own3
          go_wp2
          go_roundw
          case rel => exact ⟨k + 1, by omega, by go_num, hb4, hL4, hnext⟩
          case measure => simp [intOf]; omega
        · rw [decide_eq_false hup] at H5
          have hno := hide (hne hup)
          clear hz hIz hzP hrP hne hup hP
          go_wp2_with fail
          refine (unhide H4).mono ?_
          rintro e w3 ⟨A3, c3, rfl, own3, hb3⟩
          rw [List.length_reverse] at own3 ⊢
          have H6 := hide (unhide H5 _ _ _ _ (own3.argP (unhide HRP)))
          clear H4 H5
          go_wp2_with fail
          refine (unhide H6).mono ?_
          rintro e w4 ⟨rfl, hd⟩
          clear H6
          have hb4 := below_after hbw (below_after hb3 (hd.below _))
          clear hbw hL hb3 hd own3
          go_wp2
          go_ret
          rw [unhide hno]
          exact ⟨rfl, hb4⟩
      · obtain rfl : ps.length = k := by omega
        have hyes := hide (unhide HA (fun z hz => unhide hP z (by rw [List.take_length]; exact hz)))
        clear hL
        go_wp2
        go_ret
        rw [unhide hyes]
        exact ⟨rfl, hbw⟩

theorem Ints.argP' {w : World} {B n c : Nat} {A : Option Addr} {zs : List Int} (h : Ints w B (.slice A n c) zs) (hp : isP zs = true) (_hn : zs.length = n) : Arg w w.heap.size A n c zs := h.argP hp
theorem layer_all {p : List Int} (h : ∀ z ∈ partsR p, z.reverse = upTo z.length) : layer p = isP p := by
  cases hb : isP p with
  | true => exact layer_yes hb h
  | false => exact layer_no hb

set_option maxHeartbeats 1600000 in
theorem slayer_any (A : Option Addr) (n c B : Nat) (zs : List Int) (w : World) (h : Arg w B A n c zs) :
    Calls Try.prog 29 #[.slice A n c] w (GivesB w (layer zs)) := by
  have H0 := hide (sparts_any A n c B zs w h)
  have H9 := hide (fun w' (hb' : Below w.heap.size w w') => sisperm_any A n c B zs _ rfl w' (h.below hb').reads h.le h.cap)
  have hsm := partsR_small zs
  have HA := hide (fun h2 => layer_all (p := zs) h2)
  have HN := hide (fun z (hz : z ∈ partsR zs) h2 => layer_at hz h2)
  obtain ⟨ps, hps⟩ : ∃ ps, ps = partsR zs := ⟨_, rfl⟩
  have hpP : ∀ z ∈ ps, isP z = true := fun z hz => partsR_isP (by rw [← hps]; exact hz)
  rw [← hps] at hsm HA HN
  have HPS := hide hps
  have HPP := hide hpP
  obtain ⟨hsm, _⟩ := hsm
  clear h hps hpP
  go_enter Try.func29, Try.ntmps29
  go_wp2_with fail
  refine (unhide H0).mono ?_
  rintro e w2 ⟨A2, c2, rfl, own3, hb3⟩
  rw [← unhide HPS] at own3 ⊢
  clear H0
  go_wp2
  go_loopw [4] (fun i wr => ∃ k : Nat, k ≤ ps.length ∧ i = .int .i64 k ∧ Below w.heap.size w wr ∧ IntsS wr w.heap.size (.slice A2 ps.length c2) ps ∧ Hid (∀ z ∈ ps.take k, z.reverse = upTo z.length)) (fun i _ => ps.length - (intOf i).toNat)
  case atStart => exact ⟨0, Nat.zero_le _, rfl, hb3, own3, fun z hz => by simp at hz⟩
  case round =>
    obtain ⟨k, hk, rfl, hbw, hL, hP⟩ := hrel
    clear own3 hb3
    by_cases hlt : k < ps.length
    · obtain ⟨ad, A1, c1, z, rfl, hz, hcell, hIz⟩ := hL.at_ hlt
      obtain ⟨g, hg⟩ := hL.shape (by omega)
      have hblk : (ad.add k).block < wr.heap.size := by
        rw [block_of_add]
        injection hg with hg
        subst hg
        obtain ⟨ys, ho, _⟩ := hL
        exact (ho.lt _ rfl).2
      have hzP := unhide HPP z (List.mem_of_getElem? hz)
      have hz8 := isP_le hzP
      have hrP := isP_rev hzP
      have HZA := hide (hIz.argP hzP)
      have H4 := hide (fun w' (hb' : Below wr.heap.size wr w') => l3rev_any A1 z.length c1 _ z w' ((unhide HZA).below hb'))
      have hne := unhide HN z (List.mem_of_getElem? hz)
      have HRP := hide hrP
      have HUP := hide (isP_upTo hz8)
      have hid := idR_nat hz8
      have hb0 := Below.refl wr.heap.size wr
      obtain ⟨b, hbz⟩ : ∃ b, decide (z.reverse = upTo z.length) = b := ⟨_, rfl⟩
      have H8 := hide (fun A c B A' c' B' (w' : World) (h : Arg w' B A z.length c z.reverse) (h' : Arg w' B' A' z.length c' (upTo z.length)) => l2same_any A A' z.length c B z.length c' B' z.reverse (upTo z.length) b hbz w' h h')
      have HB := hide hbz
      have HZ := hide hz
      have HNE := hide hne
      clear hbz hz hIz hzP hrP hne hg
      go_wp2
      go_region_held3 (fun w' => w'.cell? (ad.add k) = some (.slice A1 z.length c1) ∧ Below wr.heap.size wr w') ((refine keep_cell hcell hblk ?_; first | assumption | (apply Below.drew; assumption)))
        (first
          | (go_simp; go_at_call 50; refine (unhide H4 _ (by first | assumption | (apply Below.drew; assumption))).mono ?_; rintro e w3 ⟨A3, c3, rfl, own3, hb3⟩;
              have hb5 : Below wr.heap.size wr w3 := (hb0.drew).trans hb3; rw [List.length_reverse] at own3 ⊢; clear hb3)
          | (go_simp; go_at_call 51; refine (sid_any _ (by omega) _).mono ?_; rintro e w4 ⟨A4, c4, rfl, own4, hb4⟩;
              rw [hid, upTo_length] at own4 ⊢; have hb6 := below_after hb5 hb4; have own5 := own3.below hb4; clear own3 hb5)
          | (go_simp; go_at_call 49; refine (unhide H8 _ _ _ _ _ _ _ (own5.argP' (unhide HRP) (by simp)) (own4.argP' (unhide HUP) (by rw [upTo_length]))).mono ?_; rintro e w5 ⟨rfl, hd⟩;
              have hb7 := hb6.trans (hd.below _); clear hb6 own5 own4 hb4 hd))
      have hb8 := below_after hbw hb7
      have hL8 := hL.below hb7
      cases b with
      | true =>
        have hup : z.reverse = upTo z.length := of_decide_eq_true (unhide HB)
        have hnext : Hid (∀ z ∈ ps.take (k + 1), z.reverse = upTo z.length) := hide (fun y hy => by
          rw [take_snoc_r (unhide HZ)] at hy
          rcases List.mem_append.1 hy with h | h
          · exact unhide hP y h
          · rw [List.mem_singleton] at h
            subst h
            exact hup)
        clear hup hP hbw hL hb7 hb0 hid
        go_wp2
        go_roundw
        case rel => exact ⟨k + 1, by omega, by go_num, hb8, hL8, hnext⟩
        case measure => simp [intOf]; omega
      | false =>
        have hno := hide (unhide HNE (of_decide_eq_false (unhide HB)))
        clear hP hbw hL hb7 hL8 hb0 hid
        go_wp2
        go_ret
        rw [unhide hno]
        exact ⟨rfl, hb8⟩
    · obtain rfl : ps.length = k := by omega
      have hyes := hide (unhide HA (fun z hz => unhide hP z (by rw [List.take_length]; exact hz)))
      have H10 := hide (unhide H9 wr hbw)
      clear hL H9
      go_wp2_with fail
      refine (unhide H10).mono ?_
      rintro e w4 ⟨rfl, hd⟩
      have hb4 := hbw.trans (hd.below _)
      clear H10 hd
      go_wp2
      go_ret
      rw [unhide hyes]
      exact ⟨rfl, hb4⟩
end Go.Proofs.Ytjfdjjigamlhfaa
