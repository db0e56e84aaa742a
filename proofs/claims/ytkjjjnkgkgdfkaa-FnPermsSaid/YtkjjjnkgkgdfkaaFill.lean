
/-
  spec.l2Fill and spec.PermsOf, by their contracts.
-/
import Derived.Test.YtkjjjnkgkgdfkaaPermsOf
namespace Go.Proofs.Ytkjjjnkgkgdfkaa
set_option maxRecDepth 100000
open Go.RowKit

def FillEnds (w : World) (B : Nat) (zss : List (List Int)) (e : Ending) (w' : World) : Prop := ∃ v, e = .returned v ∧ IntsS w' B v zss ∧ Below B w w' ∧ KeepI w w'
/-- What l2Fill is handed: a head, a list of rows, the head away from them. -/
structure Handed (w : World) (B : Nat) (hv : Value) (hd : List Int) (ov : Value) (out : List (List Int)) (vs : List Value) : Prop where
  head : Ints w B hv hd
  own : w.ownsRow B 24 1 ov out.length vs
  inner : Inner w B vs out
  away : ∀ x ∈ vs, Away x hv

set_option maxHeartbeats 800000 in
theorem fill_leaf (n : Nat) (g c : Nat) (hd : List Int) (out : List (List Int)) (ov : Value) (vs : List Value) (B : Nat) (w : World) (hn : hd.length = n) (h : Handed w B (.slice (some ⟨g, 0, none⟩) n c) hd ov out vs) (hB : B ≤ w.heap.size) (hl : out.length ≤ 1000000) :
    Calls Try.prog 66 #[.int .i64 (n : Int), .slice (some ⟨g, 0, none⟩) n c, ov] w (FillEnds w B (out ++ fillL n 0 hd)) := by
  obtain ⟨i0, hi, hz0, hz1, hz2⟩ := info_parts rowsInfo
  have hown := h.own
  have hbel := Below.refl B w
  have HH := hide h
  clear h
  have HN := hide hn
  clear hn
  go_enter Try.func66, Try.ntmps66
  go_wp2_with (first
    | (at_builtin; refine wpList_append_one rfl (.tmp 12) (.tmp 14) 37 rfl B 24 i0 (.slice none 0 0) 24 Try.underlying37 hi hz0 hz1 hz2 rfl w w _ _ _ rfl hown (.slice (some ⟨g, 0, none⟩) n c) rfl rfl rfl (by omega) (by simp only [maxLen]; omega) hbel hB ?_; intro v4 w4 hown4 hb4 hg4))
  have hk4 := KeepI.of_grown hown hg4
  have hin4 := ((unhide HH).inner.keepI hk4).push ((unhide HH).head.keepI hk4) (unhide HH).away
  have hfin : IntsS w4 B v4 (out ++ fillL n 0 hd) := IntsS.push rfl hown4 hin4
  clear hin4 hown4 hg4 hown hbel
  go_ret
  exact ⟨_, rfl, hfin, hb4, hk4⟩

theorem below_ends {w0 w w' : World} {B : Nat} {zss : List (List Int)} {e : Ending} (hb : Below B w0 w) (hk : KeepI w0 w) (h : FillEnds w B zss e w') : FillEnds w0 B zss e w' := by
  obtain ⟨v, he, hI, hb2, hk2⟩ := h
  exact ⟨v, he, hI, hb.trans hb2, hk.trans hk2⟩

set_option maxHeartbeats 1600000 in
theorem fill_step (n d : Nat) (hn6 : n ≤ 6) (B : Nat)
    (IH : ∀ (m : Nat) (g c : Nat) (hd : List Int) (out : List (List Int)) (ov : Value) (vs : List Value) (w : World), hd.length = m → m + d = n → Handed w B (.slice (some ⟨g, 0, none⟩) m c) hd ov out vs → B ≤ w.heap.size → out.length + (fillL n d hd).length ≤ 1000000 →
      Calls Try.prog 66 #[.int .i64 (n : Int), .slice (some ⟨g, 0, none⟩) m c, ov] w (FillEnds w B (out ++ fillL n d hd)))
    (m g c : Nat) (hd : List Int) (out : List (List Int)) (ov : Value) (vs : List Value) (w : World) (hm : hd.length = m) (hmd : m + (d + 1) = n) (h : Handed w B (.slice (some ⟨g, 0, none⟩) m c) hd ov out vs) (hB : B ≤ w.heap.size) (hl : out.length + (fillL n (d + 1) hd).length ≤ 1000000) :
    Calls Try.prog 66 #[.int .i64 (n : Int), .slice (some ⟨g, 0, none⟩) m c, ov] w (FillEnds w B (out ++ fillL n (d + 1) hd)) := by
  obtain ⟨i0, hi, hz0, hz1, hz2⟩ := info_parts intInfo
  have hne : ((m : Int) == (n : Int)) = false := by simp; omega
  have hm6 : m < n := by omega
  have hst : IntsS w B ov (out ++ fillK n d hd 0) := by rw [fillK_zero, List.append_nil]; exact ⟨vs, h.own, h.inner⟩
  have HH := hide h.head
  have HI := hide IH
  have HM := hide hm
  have HMD := hide hmd
  have HLL := hide hl
  clear IH h hm hmd hl
  go_enter Try.func66, Try.ntmps66
  go_wp2
  go_loopw [2, 7] (fun o i wr => ∃ k : Nat, k ≤ n ∧ i = .int .i64 ((k : Int) + 1) ∧ Below B w wr ∧ KeepI w wr ∧ IntsS wr B o (out ++ fillK n d hd k)) (fun _ i _ => n + 1 - (intOf i).toNat)
  case atStart => exact ⟨0, Nat.zero_le _, rfl, Below.refl _ _, KeepI.refl _, hst⟩
  case round =>
    obtain ⟨k, hk, rfl, hb, hkk, hout⟩ := hrel
    clear hst
    by_cases hlt : k < n
    · have hlt' : (k : Int) + 1 ≤ (n : Int) := by omega
      have hI := (unhide HH).keepI hkk
      obtain ⟨b2, hb2⟩ : ∃ b2, decide ((k : Int) + 1 ∈ hd) = b2 := ⟨_, rfl⟩
      have H1 := hide (l2has_any (some ⟨g, 0, none⟩) m c _ hd ((k : Int) + 1) b2 hb2 wr hI.reads (by omega))
      have HB2 := hide hb2
      clear hb2
      cases b2 with
      | true =>
        have hin : (k : Int) + 1 ∈ hd := by simpa using unhide HB2
        rw [← fillK_in (n := n) (d := d) hin] at hout
        clear hin hI
        go_wp2_with fail
        refine (unhide H1).mono ?_
        rintro e w' ⟨rfl, hw'⟩
        rw [hw']
        clear hw' H1
        go_wp2
        go_roundw
        case rel => exact ⟨k + 1, by omega, by go_num, hb, hkk, hout⟩
        case measure => simp [intOf]; omega
      | false =>
        have hno : (k : Int) + 1 ∉ hd := by simpa using unhide HB2
        have hstep := hide (fillK_out (n := n) (d := d) hno)
        obtain ⟨vs2, hown, hin⟩ := hout
        have hg : g < wr.heap.size := (Row.lt hI g rfl).2
        -- the head's cells, behind the new empty row
        have hcl : ∀ j u, (i64s hd)[j]? = some u → (wr.alloc (.cells #[] 3)).cell? ((⟨g, 0, none⟩ : Addr).add j) = some u := fun j u hu => by
          rw [World.cell?_alloc_lt]
          · have hr := hI.reads
            have hj : j < m := by have := (List.getElem?_eq_some_iff.1 hu).1; rw [i64_length, unhide HM] at this; exact this
            obtain ⟨ad, he, _, hc⟩ := hr.2 (by omega)
            injection he with he
            subst he
            exact hc j u hu
          · rw [block_of_add]; exact hg
        have hs1 := Nat.le_trans hB hb.size
        have hown0 := own0 wr wr.heap.size (Nat.le_refl _)
        have hb0 := (Below.refl wr.heap.size wr).alloc (Nat.le_refl _) (.cells #[] 3)
        have hone : ∀ u ∈ i64s hd, u.oneCell' = true := fun u hu => by
          unfold i64s at hu
          obtain ⟨z, _, rfl⟩ := List.mem_map.1 hu
          rfl
        have hln : (i64s hd).length = m * 1 := by rw [i64_length, unhide HM]; omega
        have HCL := hide hcl
        have HONE := hide hone
        have HLN := hide hln
        have Hown := hide hown
        have Hin := hide hin
        clear hcl hone hln hno hI hown hin
        go_wp2_with fail
        refine (unhide H1).mono ?_
        rintro e w' ⟨rfl, hw'⟩
        rw [hw']
        clear hw' H1
        go_wp2_with (at_builtin; refine wpList_append_own _ rfl (.tmp 26) (.tmp 27) 24 rfl wr.heap.size 3 i0 (.int .i64 0) 1 8 Try.underlying24 hi hz0 hz1 hz2 rfl (by decide) _ _ _ rfl hown0 ⟨g, 0, none⟩ m c (i64s hd) rfl ?_ ?_ ?_ ?_ ?_ ?_ ?_)
        · exact unhide HLN
        · exact unhide HCL
        · exact unhide HONE
        · unfold maxLen; omega
        · omega
        · simp
        intro v1 w1 hown1 hg1 _
        have hb1 : Below wr.heap.size wr w1 := hb0.grown hg1 (by simp) (fun q hq => by simp [Value.ownBlock] at hq; omega)
        clear hg1
        go_wp2_with (at_builtin; refine wpList_append_one rfl (.tmp 28) (.tmp 30) 24 rfl wr.heap.size 3 i0 (.int .i64 0) 8 Try.underlying24 hi hz0 hz1 hz2 rfl wr w1 _ _ _ rfl hown1 (.int .i64 ((k : Int) + 1)) rfl rfl rfl (by omega) (by simp only [maxLen]; omega) hb1 hb1.size ?_; intro v3 w3 hown3 hb3 hg3; clear hg3; obtain ⟨g3, c3, rfl⟩ := own_head hown3 (by omega))
        have hI3 : Ints w3 wr.heap.size (.slice (some ⟨g3, 0, none⟩) (m + 1) c3) (hd ++ [(k : Int) + 1]) := Ints.of_own (n := m + 1) (by have h := hown3; rwa [show i64s hd ++ [Value.int .i64 ((k : Int) + 1)] = i64s (hd ++ [(k : Int) + 1]) by unfold i64s; simp] at h)
        have hk3 := KeepI.of_below hb3
        have hH : Handed w3 B (.slice (some ⟨g3, 0, none⟩) (m + 1) c3) (hd ++ [(k : Int) + 1]) _ (out ++ fillK n d hd k) vs2 := ⟨hI3.low hs1, own_below (unhide Hown) hb3, (unhide Hin).keepI hk3, (unhide Hin).away_new hI3.since (Nat.le_refl _)⟩
        have hb4 := hb.trans (hb3.mono hs1)
        have hk4 := hkk.trans hk3
        have hlen : (out ++ fillK n d hd k).length + (fillL n d (hd ++ [(k : Int) + 1])).length ≤ 1000000 := by
          have h1 := unhide HLL
          have h2 := fillK_mono n d hd (k + 1) (n - (k + 1))
          rw [show k + 1 + (n - (k + 1)) = n by omega, fillK_all, unhide hstep, List.length_append] at h2
          rw [List.length_append]
          omega
        have H5 := hide (unhide HI (m + 1) g3 c3 (hd ++ [(k : Int) + 1]) _ _ vs2 w3 (by rw [List.length_append, unhide HM]; rfl) (by have := unhide HMD; omega) hH (Nat.le_trans hB hb4.size) hlen)
        rw [List.append_assoc, ← unhide hstep] at H5
        clear hown0 hb0 hown1 hb1 hown3 hb3 hI3 hk3 hH hlen hb hkk
        go_wp2_with fail
        refine (unhide H5).mono ?_
        rintro e w5 ⟨v5, rfl, hI5, hb5, hk5⟩
        have hb6 := hb4.trans hb5
        have hk6 := hk4.trans hk5
        clear H5 hb4 hk4 hb5 hk5
        go_wp2
        go_roundw
        case rel => exact ⟨k + 1, by omega, by go_num, hb6, hk6, hI5⟩
        case measure => simp [intOf]; omega
    · obtain rfl : n = k := by omega
      have hlt' : ¬ ((n : Int) + 1 ≤ (n : Int)) := by omega
      rw [fillK_all] at hout
      go_wp2
      go_ret
      exact ⟨_, rfl, hout, hb, hkk⟩

theorem fill_any (n : Nat) (hn6 : n ≤ 6) (B : Nat) : ∀ (d m g c : Nat) (hd : List Int) (out : List (List Int)) (ov : Value) (vs : List Value) (w : World), hd.length = m → m + d = n → Handed w B (.slice (some ⟨g, 0, none⟩) m c) hd ov out vs → B ≤ w.heap.size → out.length + (fillL n d hd).length ≤ 1000000 →
    Calls Try.prog 66 #[.int .i64 (n : Int), .slice (some ⟨g, 0, none⟩) m c, ov] w (FillEnds w B (out ++ fillL n d hd))
  | 0, m, g, c, hd, out, ov, vs, w, hm, hmd, h, hB, hl => by
    obtain rfl : m = n := by omega
    exact fill_leaf m g c hd out ov vs B w hm h hB (by omega)
  | d + 1, m, g, c, hd, out, ov, vs, w, hm, hmd, h, hB, hl => fill_step n d hn6 B (fill_any n hn6 B d) m g c hd out ov vs w hm hmd h hB hl

set_option maxHeartbeats 800000 in
theorem sperms_any (m : Int) (hm : -9223372036854775808 ≤ m ∧ m ≤ 9223372036854775807) (w : World) :
    Calls Try.prog 25 #[.int .i64 m] w (GivesSS w (permsR m)) := by
  by_cases hin : 0 ≤ m ∧ m ≤ 6
  · obtain ⟨n, rfl⟩ : ∃ n : Nat, m = (n : Int) := ⟨m.toNat, by omega⟩
    have hn : n ≤ 6 := by omega
    rw [permsR_yes hn]
    have H1 := hide (l1in_any (n : Int) 0 6 true (by simp; omega) w)
    -- the two empty rows
    have hI0 := Ints.made0 w w.heap.size (Nat.le_refl _)
    have hb1 := (Below.refl w.heap.size w).alloc (Nat.le_refl _) (.cells #[] 3)
    have hsz : (w.alloc (.cells #[] 3)).heap.size = w.heap.size + 1 := by simp
    have hown := ownS0 (w.alloc (.cells #[] 3)) w.heap.size (by simp)
    rw [hsz] at hown
    have hbA := (Below.refl (w.alloc (.cells #[] 3)).heap.size (w.alloc (.cells #[] 3))).alloc (Nat.le_refl _) (.cells #[] 24)
    have hI1 := hI0.below hbA
    have hb2 := hb1.alloc (by simp) (.cells #[] 24)
    have hH : Handed ((w.alloc (.cells #[] 3)).alloc (.cells #[] 24)) w.heap.size (.slice (some ⟨w.heap.size, 0, none⟩) 0 0) [] (.slice (some ⟨w.heap.size + 1, 0, none⟩) 0 0) [] [] := ⟨hI1, hown, Inner.nil _ _, fun x hx => by simp at hx⟩
    have hlen : ([] : List (List Int)).length + (fillL n n []).length ≤ 1000000 := by
      rw [two_ways n hn]
      have := (permL_small n hn).1
      simp only [List.length_nil]
      omega
    have H2 := hide (fill_any n hn w.heap.size n 0 w.heap.size 0 [] [] _ [] _ rfl (by omega) hH (by simp; omega) hlen)
    rw [List.nil_append, two_ways n hn] at H2
    clear hI0 hb1 hsz hown hbA hI1 hH hlen hin hm
    go_enter Try.func25, Try.ntmps25
    go_wp2_with fail
    refine (unhide H1).mono ?_
    rintro e w' ⟨rfl, hw'⟩
    rw [hw']
    clear hw' H1
    go_wp2_with fail
    refine (unhide H2).mono ?_
    rintro e w5 ⟨v5, rfl, hI5, hb5, _⟩
    have hb6 := hb2.trans hb5
    clear H2 hb5 hb2
    go_wp2
    go_ret
    exact GivesSS.mk hI5 hb6
  · rw [permsR_no hin]
    have H1 := hide (l1in_any m 0 6 false (by simp; omega) w)
    have hI := IntsS.made0 w w.heap.size (Nat.le_refl _)
    have hb := (Below.refl w.heap.size w).alloc (Nat.le_refl _) (.cells #[] 24)
    obtain ⟨hm1, hm2⟩ := hm
    clear hin
    go_enter Try.func25, Try.ntmps25
    go_wp2_with fail
    refine (unhide H1).mono ?_
    rintro e w' ⟨rfl, hw'⟩
    rw [hw']
    clear hw' H1
    go_wp2
    go_ret
    exact GivesSS.mk hI hb
end Go.Proofs.Ytkjjjnkgkgdfkaa
