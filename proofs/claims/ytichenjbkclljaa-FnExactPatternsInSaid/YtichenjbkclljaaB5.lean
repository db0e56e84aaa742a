/-
  Words and contracts that the laws lean on, bundled: PatsS, ChM, PatA, More, Choices, OccT, TellPush, Collect, Has.
-/
import Derived.Test.YtichenjbkclljaaB4
import Derived.Test.YtichenjbkclljaaB3
import Derived.Laws.BitsLemmas
import Derived.Test.YtichenjbkclljaaB2
import Derived.Maps.AppendAt
import Derived.Maps.OwnIn

/-
  spec.PatternsIn, by its contract.
-/

namespace Go.Proofs.Ytichenjbkclljaa
set_option maxRecDepth 100000
open Go.RowKit

/-- The numbers at those of the first k indices whose bit is set. -/
def subK (p : List Int) (s : Nat) : Nat → List Int
  | 0 => []
  | k + 1 => if s.testBit k then subK p s k ++ [at0 p k] else subK p s k
theorem subK_len (p : List Int) (s : Nat) : ∀ k, (subK p s k).length ≤ k
  | 0 => Nat.le_refl _
  | k + 1 => by
    have := subK_len p s k
    rw [subK]; split <;> simp <;> omega
/-- The patterns of length k of the first s sets of indices, in order. -/
def patK (p : List Int) (k : Int) : Nat → List (List Int)
  | 0 => []
  | s + 1 => if ((subK p s p.length).length : Int) = k then putL (patK p k s) (patL (subK p s p.length)) else patK p k s
def patsOK (p : List Int) (k : Int) : Bool := isP p && decide (0 ≤ k ∧ k ≤ (p.length : Int))
def patsR (p : List Int) (k : Int) : List (List Int) := if patsOK p k then patK p k (2 ^ p.length) else []

theorem bit_test (s k : Nat) (hs : s ≤ 256) : (bits .and .i64 ((s : Int) / 2 ^ k) 1 == 1) = s.testBit k := by
  have h0 : (s : Int) / 2 ^ k = ((s / 2 ^ k : Nat) : Int) := by push_cast; rfl
  have hle : s / 2 ^ k ≤ s := Nat.div_le_self _ _
  have h1 : bits .and .i64 ((s / 2 ^ k : Nat) : Int) 1 = ((s / 2 ^ k % 2 : Nat) : Int) := by
    have := bits_mask .i64 63 (by decide) (fun n h0 h1 => by rw [IntKind.wrap_i64]; omega) 1 (by decide) ((s / 2 ^ k : Nat) : Int) (Int.natCast_nonneg _) (Int.lt_of_le_of_lt (Int.ofNat_le.2 hle) (by omega))
    simpa using this
  rw [h0, h1, Nat.testBit_eq_decide_div_mod_eq]
  by_cases h : s / 2 ^ k % 2 = 1
  · rw [h]; rfl
  · have h2 : s / 2 ^ k % 2 = 0 := by omega
    rw [h2]; rfl
theorem patK_len (p : List Int) (k : Int) : ∀ s, (patK p k s).length ≤ s
  | 0 => Nat.le_refl _
  | s + 1 => by
    have h1 := patK_len p k s
    have h2 := (putL_len (patK p k s) (patL (subK p s p.length))).2
    rw [patK]; split <;> omega
theorem subK_sub (p : List Int) (s : Nat) : ∀ k, k ≤ p.length → (subK p s k).Sublist (p.take k)
  | 0, _ => by simp [subK]
  | k + 1, hk => by
    have ih := subK_sub p s k (by omega)
    rw [take_snoc_i (at0_some (show k < p.length by omega)), subK]
    split
    · exact ih.append (List.Sublist.refl _)
    · exact ih.trans (List.sublist_append_left _ _)
theorem subK_isP {p : List Int} (hp : isP p = true) (s : Nat) : isP (patL (subK p s p.length)) = true := by
  have h := subK_sub p s p.length (Nat.le_refl _)
  rw [List.take_length] at h
  rw [isP_pat]
  exact patOK_yes (Nat.le_trans h.length_le (isP_le hp)) ((isP_true.1 hp).2.2.sublist h)
theorem patK_all {p : List Int} (hp : isP p = true) (k : Int) : ∀ s, ∀ z ∈ patK p k s, isP z = true
  | 0, z, hz => by simp [patK] at hz
  | s + 1, z, hz => by
    rw [patK] at hz
    split at hz
    · rcases mem_putL.1 hz with hz | rfl
      · exact patK_all hp k s z hz
      · exact subK_isP hp s
    · exact patK_all hp k s z hz
theorem patK_yes {p : List Int} {k : Int} {s : Nat} (h : ((subK p s p.length).length : Int) = k) : patK p k (s + 1) = putL (patK p k s) (patL (subK p s p.length)) := by rw [patK, if_pos h]
theorem patK_no {p : List Int} {k : Int} {s : Nat} (h : ¬ ((subK p s p.length).length : Int) = k) : patK p k (s + 1) = patK p k s := by rw [patK, if_neg h]
theorem patsR_yes {p : List Int} {k : Int} (h : patsOK p k = true) : patsR p k = patK p k (2 ^ p.length) := by unfold patsR; rw [if_pos h]
theorem patsR_no {p : List Int} {k : Int} (h : patsOK p k = false) : patsR p k = [] := by unfold patsR; rw [if_neg (by simp [h])]

set_option maxHeartbeats 1600000 in
theorem spats_any (A : Option Addr) (n c B : Nat) (zs : List Int) (x : Int) (w : World) (h : Arg w B A n c zs) :
    Calls Try.prog 24 #[.slice A n c, .int .i64 x] w (GivesSS w (patsR zs x)) := by
  obtain ⟨i0, hi, hz0, hz1, hz2⟩ := info_parts intInfo
  have hl := h.len
  obtain ⟨b, hb⟩ : ∃ b, isP zs = b := ⟨_, rfl⟩
  have hst := lput_start w
  have hbel := (Below.refl w.heap.size w).alloc (Nat.le_refl _) (.cells #[] 24)
  have H0 := hide (sisperm_any A n c B zs b hb (w.alloc (.cells #[] 24)) (h.below hbel).reads h.le h.cap)
  cases b with
  | false =>
    rw [patsR_no (by unfold patsOK; rw [hb]; rfl)]
    clear h hb hl
    go_enter Try.func24, Try.ntmps24
    go_wp2_with fail
    refine (unhide H0).mono ?_
    rintro e w1 ⟨rfl, hd⟩
    have hs1 := lput_below hst (hd.below _)
    have hb1 := below_after hbel (hd.below _)
    clear H0 hst hbel hd
    go_wp2
    go_ret
    exact GivesSS.mk hs1.1 hb1
  | true =>
    obtain ⟨b2, hb2⟩ : ∃ b2, decide ((0 : Int) ≤ x ∧ x ≤ (n : Int)) = b2 := ⟨_, rfl⟩
    have HB2 := hide hb2
    have ho : patsOK zs x = b2 := by unfold patsOK; rw [hb, hl, hb2]; rfl
    cases b2 with
    | false =>
      rw [patsR_no ho]
      clear h hb hl hb2 ho
      go_enter Try.func24, Try.ntmps24
      go_wp2_with fail
      refine (unhide H0).mono ?_
      rintro e w1 ⟨rfl, hd⟩
      go_wp2_with fail
      refine (l1in_any x 0 n false (unhide HB2) _).mono ?_
      rintro e w2 ⟨rfl, rfl⟩
      have hs1 := lput_below hst (hd.below _)
      have hb1 := below_after hbel (hd.below _)
      clear H0 hst hbel hd
      go_wp2
      go_ret
      exact GivesSS.mk hs1.1 hb1
    | true =>
      have h8 := isP_le hb
      have hn8 : n ≤ 8 := by omega
      rw [patsR_yes ho, hl]
      obtain ⟨M, hM⟩ : ∃ M, 2 ^ n = M := ⟨_, rfl⟩
      have hM8 : M ≤ 256 := by rw [← hM]; exact Nat.pow_le_pow_right (n := 2) (by decide) hn8
      have hwM : wrap64 ((2 : Int) ^ n) = (M : Int) := by
        have : (2 : Int) ^ n = (M : Int) := by rw [← hM]; push_cast; rfl
        rw [this]; unfold wrap64; omega
      rw [hM]
      have HALL := hide (patK_all hb x)
      have HLEN := hide (patK_len zs x)
      have HISP := hide (subK_isP hb)
      have HSUB := hide (subK_len zs)
      have HL := hide hl
      have HSM := hide (fun s => show Small (subK zs s n) from fun z hz => by
        have := subK_sub zs s n (by omega)
        exact isP_small hb z (List.mem_of_mem_take (this.mem hz)))
      clear hb hl hb2 ho h8 hM
      go_enter Try.func24, Try.ntmps24
      go_wp2_with fail
      refine (unhide H0).mono ?_
      rintro e w1 ⟨rfl, hd⟩
      go_wp2_with fail
      refine (l1in_any x 0 n true (unhide HB2) _).mono ?_
      rintro e w2 ⟨rfl, rfl⟩
      have hs1 := lput_below hst (hd.below _)
      have hb1 := below_after hbel (hd.below _)
      clear H0 hst hbel hd
      go_wp2
      go_loopw [5, 6, 7, 8] (fun v i _ _ wr => ∃ s : Nat, s ≤ M ∧ i = .int .i64 s ∧ Below w.heap.size w wr ∧ PutS wr w.heap.size v (patK zs x s)) (fun _ i _ _ _ => M - (intOf i).toNat)
      case atStart => exact ⟨0, Nat.zero_le _, rfl, hb1, hs1⟩
      case round =>
        obtain ⟨s, hs, rfl, hbw, hP⟩ := hrel
        clear hs1 hb1
        obtain ⟨g, cap, rfl⟩ := hP.2
        by_cases hlt : s < M
        · have hst2 := own0 wr wr.heap.size (Nat.le_refl _)
          have hal := (Below.refl wr.heap.size wr).alloc (Nat.le_refl _) (.cells #[] 3)
          obtain ⟨wo, rfl⟩ : ∃ wo : World, wo = wr := ⟨_, rfl⟩
          go_wp2
          clear hwM
          go_loopw [7, 8] (fun o i wi => ∃ k : Nat, k ≤ n ∧ i = .int .i64 k ∧ Below wo.heap.size wo wi ∧ wi.ownsRow wo.heap.size 3 1 o (subK zs s k).length (i64s (subK zs s k))) (fun _ i _ => n - (intOf i).toNat)
          case atStart => exact ⟨0, Nat.zero_le _, rfl, hal, hst2⟩
          case round =>
            obtain ⟨k, hk, rfl, hbi, hown⟩ := hrel
            clear hal hst2
            have hbt := bit_test s k (by omega)
            have hsl := unhide HSUB s k
            by_cases hkl : k < n
            · obtain ⟨ad, rfl, _, _, hc⟩ := ((h.below hbw).below hbi).at_ hkl
              obtain ⟨z, hz⟩ : ∃ z, at0 zs k = z := ⟨_, rfl⟩
              rw [hz] at hc
              have HZ := hide hz
              clear hz
              obtain ⟨b3, hb3⟩ : ∃ b3, s.testBit k = b3 := ⟨_, rfl⟩
              rw [hb3] at hbt
              cases b3 with
              | true =>
                have HS : Hid (subK zs s (k + 1) = subK zs s k ++ [z]) := hide (by rw [subK, if_pos hb3, unhide HZ])
                clear hb3
                go_wp2_with (first
                  | (at_builtin; refine wpList_append_one rfl (.tmp 42) (.tmp 47) 24 rfl wo.heap.size 3 i0 (.int .i64 0) 8 Try.underlying24 hi hz0 hz1 hz2 rfl wo wr _ _ _ rfl hown (.int .i64 z) rfl rfl rfl (by omega) (by unfold maxLen; omega) hbi hbi.size ?_; intro v2 w2 hown2 hb2 hg2; clear hg2))
                rw [i64_snoc, ← unhide HS] at hown2
                have hl2 : (subK zs s k).length + 1 = (subK zs s (k + 1)).length := by rw [unhide HS, List.length_append, List.length_singleton]
                rw [hl2] at hown2
                clear hown hbi HS hl2
                go_wp2
                go_roundw
                case rel => exact ⟨k + 1, by omega, by go_num, hb2, hown2⟩
                case measure => simp [intOf]; omega
              | false =>
                have HS : Hid (subK zs s (k + 1) = subK zs s k) := hide (by rw [subK, if_neg (by rw [hb3]; exact Bool.false_ne_true)])
                clear hb3
                go_wp2
                go_roundw
                case rel => exact ⟨k + 1, by omega, by go_num, hbi, by rw [unhide HS]; exact hown⟩
                case measure => simp [intOf]; omega
            · obtain rfl : n = k := by omega
              have hI := Ints.of_own hown
              have hb2 := below_after hbw hbi
              have hP2 := lput_below hP hbi
              obtain ⟨Ao, co, rfl⟩ := hI.slice
              have hll := unhide HSUB s n
              have HI := hide hI
              have HSL := hide hll
              by_cases hkx : ((subK zs s n).length : Int) = x
              · have HK : Hid (patK zs x (s + 1) = putL (patK zs x s) (patL (subK zs s n))) := hide (by rw [patK_yes (by rw [unhide HL]; exact hkx), unhide HL])
                have hkb : (((subK zs s n).length : Int) == x) = true := by rw [beq_iff_eq]; exact hkx
                have H1 := hide (l2pat_any Ao (subK zs s n).length co _ (subK zs s n) wr (hI.arg (by omega) hI.cap (unhide HSM s)) (by omega))
                have hIP : isP (patL (subK zs s n)) = true := by have := unhide HISP s; rwa [unhide HL] at this
                have HIP := hide hIP
                clear hown hI hbt hP hbi hIP hkx hll hsl
                go_wp2_with fail
                refine (unhide H1).mono ?_
                rintro e w3 ⟨A3, c3, rfl, o3, hb3⟩
                have hP3 := lput_below hP2 hb3
                have hb4 := below_after hb2 hb3
                have hlen : (patK zs x s).length ≤ 1048576 := by have := unhide HLEN s; omega
                have H3 := hide (l3put_any w.heap.size (patK zs x s) g (patK zs x s).length cap A3 (patL (subK zs s n)).length c3 w3.heap.size (patL (subK zs s n)) w3 hP3.1 (o3.argP (unhide HIP)) hb4.size (unhide HALL s) hlen)
                rw [← unhide HK] at H3
                clear H1 hP2 o3 hb3 hP3 hlen hb2
                go_wp2_with fail
                refine (unhide H3).mono ?_
                rintro e w4 ⟨v4, rfl, hS4, hb5, _⟩
                have hb6 := hb4.trans hb5
                clear H3 hb5 hb4
                go_wp2
                go_roundw
                case rel => exact ⟨s + 1, by omega, by go_num, hb6, hS4⟩
                case measure => simp [intOf]; omega
              · have HK : Hid (patK zs x (s + 1) = patK zs x s) := hide (patK_no (by rw [unhide HL]; exact hkx))
                have hkb : (((subK zs s n).length : Int) == x) = false := by rw [beq_eq_false_iff_ne]; exact hkx
                clear hown hI hbt hP hbi hkx hll hsl
                go_wp2
                go_roundw
                case rel => exact ⟨s + 1, by omega, by go_num, hb2, by rw [unhide HK]; exact hP2⟩
                case measure => simp [intOf]; omega
        · obtain rfl : M = s := by omega
          go_wp2
          go_ret
          exact GivesSS.mk hP.1 hbw
end Go.Proofs.Ytichenjbkclljaa


/-
  PLAIN: the choices of places in order; occurrences are those whose pattern is right, patterns are the patterns of the choices. Nothing here speaks of the program.
-/

namespace Go.Proofs.Ytichenjbkclljaa
set_option maxRecDepth 100000

/-- The choices of m more of the places 1 to n that begin with head. -/
def chL (n : Nat) : Nat → List Int → List (List Int)
  | 0, head => [head]
  | m + 1, head => (List.range (n - lastP head)).flatMap fun i => chL n m (head ++ [((lastP head + i + 1 : Nat) : Int)])
/-- .. of the first j of the next places. -/
def chK (n m : Nat) (head : List Int) (j : Nat) : List (List Int) := (List.range j).flatMap fun i => chL n m (head ++ [((lastP head + i + 1 : Nat) : Int)])
theorem chK_all (n m : Nat) (head : List Int) : chK n m head (n - lastP head) = chL n (m + 1) head := rfl
theorem chK_zero (n m : Nat) (head : List Int) : chK n m head 0 = [] := rfl
theorem chK_step (n m : Nat) (head : List Int) (j : Nat) : chK n m head (j + 1) = chK n m head j ++ chL n m (head ++ [((lastP head + j + 1 : Nat) : Int)]) := by
  unfold chK
  rw [List.range_succ, List.flatMap_append, List.flatMap_cons, List.flatMap_nil, List.append_nil]
theorem mem_chL {n : Nat} : ∀ (m : Nat) (head pl : List Int), PlOK n head → (pl ∈ chL n m head ↔ ∃ tl, pl = head ++ tl ∧ tl.length = m ∧ PlOK n pl)
  | 0, head, pl, h => by
    rw [chL, List.mem_singleton]
    constructor
    · rintro rfl
      exact ⟨[], by simp, rfl, h⟩
    · rintro ⟨tl, rfl, h1, _⟩
      rw [List.eq_nil_of_length_eq_zero h1, List.append_nil]
  | m + 1, head, pl, h => by
    have hle := lastP_le h
    rw [chL, List.mem_flatMap]
    constructor
    · rintro ⟨i, hi, hm⟩
      rw [List.mem_range] at hi
      have hh : PlOK n (head ++ [((lastP head + i + 1 : Nat) : Int)]) := PlOK.snoc.2 ⟨h, by omega, by omega⟩
      obtain ⟨tl, rfl, h1, h2⟩ := (mem_chL m _ pl hh).1 hm
      exact ⟨((lastP head + i + 1 : Nat) : Int) :: tl, by rw [List.append_assoc]; rfl, by simp [h1], h2⟩
    · rintro ⟨tl, rfl, h1, h2⟩
      match tl, h1 with
      | x :: tl, h1 =>
        have hx : PlOK n (head ++ [x]) := by
          have := h2.take (head.length + 1)
          rwa [show head ++ x :: tl = head ++ [x] ++ tl by simp, List.take_append_of_le_length (by simp), List.take_of_length_le (by simp)] at this
        obtain ⟨_, hx1, hx2⟩ := PlOK.snoc.1 hx
        have hxe : ((lastP head + (x.toNat - lastP head - 1) + 1 : Nat) : Int) = x := by omega
        refine ⟨x.toNat - lastP head - 1, List.mem_range.2 (by omega), ?_⟩
        rw [hxe, mem_chL m _ _ hx]
        exact ⟨tl, by simp, by simpa using h1, h2⟩
theorem chL_len {n : Nat} : ∀ (m : Nat) (head pl : List Int), pl ∈ chL n m head → pl.length = head.length + m
  | 0, head, pl, h => by rw [chL, List.mem_singleton] at h; subst h; rfl
  | m + 1, head, pl, h => by
    rw [chL, List.mem_flatMap] at h
    obtain ⟨i, _, h⟩ := h
    have := chL_len m _ pl h
    simp at this; omega
theorem chL_pre {n : Nat} : ∀ (m : Nat) (head pl : List Int), pl ∈ chL n m head → ∃ tl, pl = head ++ tl
  | 0, head, pl, h => by rw [chL, List.mem_singleton] at h; subst h; exact ⟨[], by simp⟩
  | m + 1, head, pl, h => by
    rw [chL, List.mem_flatMap] at h
    obtain ⟨i, _, h⟩ := h
    obtain ⟨tl, rfl⟩ := chL_pre m _ pl h
    exact ⟨_ :: tl, by simp; rfl⟩
theorem chL_asc {n : Nat} : ∀ (m : Nat) (head : List Int), Asc (chL n m head)
  | 0, head => by rw [chL]; exact List.pairwise_singleton _ _
  | m + 1, head => by
    rw [chL]
    unfold Asc
    rw [List.pairwise_flatMap]
    constructor
    · intro i _
      exact chL_asc m _
    · refine List.Pairwise.imp ?_ List.pairwise_lt_range
      intro i j hij x hx y hy
      have l1 := chL_len m _ x hx
      have l2 := chL_len m _ y hy
      obtain ⟨t, rfl⟩ := chL_pre m _ x hx
      obtain ⟨s, rfl⟩ := chL_pre m _ y hy
      simp only [List.length_append, List.length_singleton] at l1 l2
      rw [befL_eq (by simp; omega), List.append_assoc, List.append_assoc, lexL_app, List.singleton_append, List.singleton_append, lexL, if_neg (by omega)]
      simp; omega
/-- The choices of k of the places 1 to n. -/
def chR (n k : Nat) : List (List Int) := chL n k []
theorem mem_chR {n k : Nat} {pl : List Int} : pl ∈ chR n k ↔ pl.length = k ∧ PlOK n pl := by
  unfold chR
  rw [mem_chL k [] pl (PlOK.nil n)]
  constructor
  · rintro ⟨tl, rfl, h1, h2⟩; exact ⟨by simpa using h1, h2⟩
  · rintro ⟨h1, h2⟩; exact ⟨pl, rfl, h1, h2⟩
theorem chR_asc (n k : Nat) : Asc (chR n k) := chL_asc k []
/-- The pattern at places. -/
def patA (p pl : List Int) : List Int := patL (nums p pl)
theorem occ_filter {p q : List Int} (hp : isP p = true) (hq : isP q = true) : (chR p.length q.length).filter (fun pl => decide (patA p pl = q)) = occR p q := by
  refine asc_unique ((chR_asc _ _).sublist List.filter_sublist) (occ_asc p q) fun x => ?_
  rw [List.mem_filter, mem_chR, mem_occ, isOcc_iff]
  unfold patA
  simp only [decide_eq_true_eq, hp, hq, true_and]
  constructor
  · rintro ⟨⟨h1, h2⟩, h3⟩; exact ⟨h1, h2, h3⟩
  · rintro ⟨h1, h2, h3⟩; exact ⟨⟨h1, h2⟩, h3⟩

/-! patterns -/
theorem nums_sub {p : List Int} : ∀ {pl : List Int} {m : Nat}, PlOK m pl → m ≤ p.length → (nums p pl).Sublist (p.take m) := by
  intro pl m
  induction m generalizing pl with
  | zero =>
    intro h _
    cases pl with
    | nil => simp [nums]
    | cons a l => have := h.1 a (by simp); omega
  | succ m ih =>
    intro h hm
    by_cases h0 : pl = []
    · subst h0; simp [nums]
    · obtain ⟨l, x, rfl⟩ : ∃ l x, pl = l ++ [x] := ⟨pl.dropLast, pl.getLast h0, (List.dropLast_concat_getLast h0).symm⟩
      obtain ⟨h1, h2, h3⟩ := PlOK.snoc.1 h
      have hsub : ∀ (k : Nat), k ≤ m → (p.take k).Sublist (p.take m) := fun k hk => by
        have := List.take_sublist k (p.take m)
        rwa [List.take_take, Nat.min_eq_left hk] at this
      by_cases hx : x = ((m + 1 : Nat) : Int)
      · subst hx
        have hl : PlOK m l := ⟨fun y hy => ⟨(h1.1 y hy).1, by
          have hh := (List.pairwise_append.1 h.2).2.2 y hy ((m + 1 : Nat) : Int) (by simp)
          omega⟩, h1.2⟩
        rw [nums_snoc, take_snoc_i (at0_some (show m < p.length by omega))]
        exact (ih hl (by omega)).append (by rw [show (((m + 1 : Nat) : Int)).toNat - 1 = m by omega]; exact List.Sublist.refl _)
      · have hl : PlOK m (l ++ [x]) := PlOK.snoc.2 ⟨⟨fun y hy => ⟨(h1.1 y hy).1, by
          have hh := (List.pairwise_append.1 h.2).2.2 y hy x (by simp)
          omega⟩, h1.2⟩, h2, by omega⟩
        have := ih hl (by omega)
        have h5 := List.take_sublist m (p.take (m + 1))
        rw [List.take_take, Nat.min_eq_left (Nat.le_succ m)] at h5
        exact this.trans h5
theorem nums_sub' {p pl : List Int} (h : PlOK p.length pl) : (nums p pl).Sublist p := by
  have := nums_sub (p := p) h (Nat.le_refl _)
  rwa [List.take_length] at this
/-- The patterns of the choices are those of the parts of a length. -/
theorem mem_pats_ch {p x : List Int} {k : Nat} : x ∈ (chR p.length k).map (patA p) ↔ ∃ s, s.Sublist p ∧ s.length = k ∧ x = patL s := by
  rw [List.mem_map]
  constructor
  · rintro ⟨pl, h, rfl⟩
    rw [mem_chR] at h
    exact ⟨nums p pl, nums_sub' h.2, by rw [nums_length]; exact h.1, rfl⟩
  · rintro ⟨s, h1, h2, rfl⟩
    obtain ⟨pl, h3, rfl⟩ := places_of h1
    rw [nums_length] at h2
    exact ⟨pl, mem_chR.2 ⟨h2, h3⟩, rfl⟩
theorem subK_hi (p : List Int) {s t : Nat} : ∀ {k : Nat}, (∀ i, i < k → s.testBit i = t.testBit i) → subK p s k = subK p t k
  | 0, _ => rfl
  | k + 1, h => by
    rw [subK, subK, h k (by omega), subK_hi p (k := k) fun i hi => h i (by omega)]
/-- Every part is one of the parts that the bits tell. -/
theorem sub_bits {p : List Int} : ∀ (k : Nat) (s : List Int), k ≤ p.length → s.Sublist (p.take k) → ∃ t, t < 2 ^ k ∧ subK p t k = s
  | 0, s, _, h => ⟨0, by simp, by rw [List.take_zero] at h; rw [List.sublist_nil.1 h]; rfl⟩
  | k + 1, s, hk, h => by
    rw [take_snoc_i (at0_some (show k < p.length by omega)), List.sublist_append_iff] at h
    obtain ⟨a, b, rfl, h1, h2⟩ := h
    obtain ⟨t, ht, rfl⟩ := sub_bits k a (by omega) h1
    have hpow : 2 ^ (k + 1) = 2 ^ k + 2 ^ k := by rw [Nat.pow_succ]; omega
    cases b with
    | nil =>
      refine ⟨t, by omega, ?_⟩
      rw [subK, Nat.testBit_lt_two_pow ht, List.append_nil]
      rfl
    | cons y b =>
      have hb : y :: b = [at0 p k] := by
        have := h2.length_le
        cases b with
        | nil => have := h2.subset (List.mem_singleton.2 rfl); simp at this; rw [this]
        | cons z b => simp at this
      rw [hb]
      refine ⟨2 ^ k + t, by omega, ?_⟩
      rw [subK, Nat.testBit_two_pow_add_eq, Nat.testBit_lt_two_pow ht]
      rw [subK_hi p (s := 2 ^ k + t) (t := t) fun i hi => Nat.testBit_two_pow_add_gt hi t]
      rfl
theorem mem_patK {p : List Int} {k : Int} : ∀ {s : Nat} {x : List Int}, x ∈ patK p k s ↔ ∃ t, t < s ∧ ((subK p t p.length).length : Int) = k ∧ x = patL (subK p t p.length)
  | 0, x => by simp [patK]
  | s + 1, x => by
    have ih := mem_patK (p := p) (k := k) (s := s) (x := x)
    constructor
    · intro h
      by_cases hk : ((subK p s p.length).length : Int) = k
      · rw [patK_yes hk, mem_putL] at h
        rcases h with h | rfl
        · obtain ⟨t, h1, h2⟩ := ih.1 h; exact ⟨t, by omega, h2⟩
        · exact ⟨s, by omega, hk, rfl⟩
      · rw [patK_no hk] at h
        obtain ⟨t, h1, h2⟩ := ih.1 h; exact ⟨t, by omega, h2⟩
    · rintro ⟨t, h1, h2, h3⟩
      by_cases hk : ((subK p s p.length).length : Int) = k
      · rw [patK_yes hk, mem_putL]
        by_cases hts : t = s
        · subst hts; exact .inr h3
        · exact .inl (ih.2 ⟨t, by omega, h2, h3⟩)
      · rw [patK_no hk]
        have hts : t ≠ s := fun e => hk (by rw [← e]; exact h2)
        exact ih.2 ⟨t, by omega, h2, h3⟩
theorem patK_asc (p : List Int) (k : Int) : ∀ s, Asc (patK p k s)
  | 0 => List.Pairwise.nil
  | s + 1 => by
    rw [patK]
    split
    · exact asc_putL (patK_asc p k s)
    · exact patK_asc p k s
theorem patsOK_nat {p : List Int} {k : Nat} (hp : isP p = true) (hk : k ≤ p.length) : patsOK p (k : Int) = true := by
  unfold patsOK
  rw [hp, Bool.true_and, decide_eq_true_eq]
  omega
theorem mem_patsR {p x : List Int} {k : Nat} (hp : isP p = true) (hk : k ≤ p.length) : x ∈ patsR p (k : Int) ↔ ∃ s, s.Sublist p ∧ s.length = k ∧ x = patL s := by
  rw [patsR_yes (patsOK_nat hp hk), mem_patK]
  constructor
  · rintro ⟨t, _, h2, h3⟩
    have h := subK_sub p t p.length (Nat.le_refl _)
    rw [List.take_length] at h
    exact ⟨_, h, by omega, h3⟩
  · rintro ⟨s, h1, h2, h3⟩
    obtain ⟨t, ht, h4⟩ := sub_bits p.length s (Nat.le_refl _) (by rw [List.take_length]; exact h1)
    exact ⟨t, ht, by rw [h4]; omega, by rw [h4]; exact h3⟩
theorem patsR_asc (p : List Int) (k : Int) : Asc (patsR p k) := by
  unfold patsR
  split
  · exact patK_asc p k _
  · exact List.Pairwise.nil
theorem pats_ordL {p : List Int} {k : Nat} (hp : isP p = true) (hk : k ≤ p.length) : ordL ((chR p.length k).map (patA p)) ((chR p.length k).map (patA p)).length = patsR p (k : Int) := by
  refine asc_unique (ordL_asc _ _) (patsR_asc _ _) fun x => ?_
  rw [ordL_mem, List.take_length, mem_pats_ch, mem_patsR hp hk]
theorem pats_allP {p : List Int} {k : Nat} (hp : isP p = true) : allP ((chR p.length k).map (patA p)) = true := by
  unfold allP
  rw [List.all_eq_true]
  intro x hx
  obtain ⟨s, h1, _, rfl⟩ := mem_pats_ch.1 hx
  rw [isP_pat]
  exact patOK_yes (Nat.le_trans h1.length_le (isP_le hp)) ((isP_true.1 hp).2.2.sublist h1)
theorem pats_ordR {p : List Int} {k : Nat} (hp : isP p = true) (hk : k ≤ p.length) : ordR ((chR p.length k).map (patA p)) = patsR p (k : Int) := by
  rw [ordR_yes (pats_allP hp), pats_ordL hp hk]

/-! leaving one out -/
theorem sub_cut {s p : List Int} (h : s.Sublist p) : s.length + 1 = p.length → ∃ i, i < p.length ∧ s = cutAt p i := by
  induction h with
  | slnil => intro h; simp at h
  | cons a h ih =>
    intro hl
    simp only [List.length_cons, Nat.add_right_cancel_iff] at hl
    exact ⟨0, by simp, by rw [h.eq_of_length hl]; simp [cutAt]⟩
  | cons_cons a h ih =>
    intro hl
    simp only [List.length_cons, Nat.add_right_cancel_iff] at hl
    obtain ⟨i, hi, rfl⟩ := ih hl
    exact ⟨i + 1, by simpa using hi, by simp [cutAt]⟩
theorem lowK_mem {p x : List Int} {k : Nat} : x ∈ lowK p k ↔ ∃ i, i < k ∧ x = patL (cutAt p i) := by
  unfold lowK
  rw [(foldl_put _ [] List.Pairwise.nil).2.1]
  simp only [List.not_mem_nil, false_or, List.mem_map, List.mem_range]
  exact ⟨fun ⟨i, h1, h2⟩ => ⟨i, h1, h2.symm⟩, fun ⟨i, h1, h2⟩ => ⟨i, h1, h2.symm⟩⟩
theorem lowK_asc (p : List Int) (k : Nat) : Asc (lowK p k) := (foldl_put _ [] List.Pairwise.nil).1
theorem pats_low (p : List Int) : patsR p ((p.length : Int) - 1) = lowR p := by
  cases hp : isP p with
  | false => rw [lowR_no hp, patsR_no (by unfold patsOK; rw [hp]; rfl)]
  | true =>
    rw [lowR_yes hp]
    by_cases h0 : p.length = 0
    · rw [h0, patsR_no (by unfold patsOK; rw [hp, h0]; rfl)]; rfl
    · obtain ⟨m, hm⟩ : ∃ m, p.length = m + 1 := ⟨p.length - 1, by omega⟩
      rw [show ((p.length : Int) - 1) = (m : Int) by omega]
      refine asc_unique (patsR_asc _ _) (lowK_asc _ _) fun x => ?_
      rw [mem_patsR hp (by omega), lowK_mem]
      constructor
      · rintro ⟨s, h1, h2, rfl⟩
        obtain ⟨i, hi, rfl⟩ := sub_cut h1 (by omega)
        exact ⟨i, hi, rfl⟩
      · rintro ⟨i, hi, rfl⟩
        exact ⟨_, cutAt_sub p i, by have := cutAt_len hi; omega, rfl⟩
end Go.Proofs.Ytichenjbkclljaa


/-
  impl.numbersAt: the numbers at places; impl.patternAt: their pattern.
-/

namespace Go.Proofs.Ytichenjbkclljaa
set_option maxRecDepth 100000
open Go.RowKit

theorem nums_patOK {p pl : List Int} (hp : isP p = true) (h : PlOK p.length pl) : patOK (nums p pl) = true :=
  patOK_yes (Nat.le_trans (nums_sub' h).length_le (isP_le hp)) ((isP_true.1 hp).2.2.sublist (nums_sub' h))
theorem plOK_le {n : Nat} {pl : List Int} (h : PlOK n pl) : pl.length ≤ n := by
  have h1 := nums_sub' (p := List.replicate n 0) (pl := pl) (by rw [List.length_replicate]; exact h)
  have := h1.length_le
  rwa [nums_length, List.length_replicate] at this
set_option maxHeartbeats 800000 in
theorem inums_any (A A' : Option Addr) (n c B n' c' B' : Nat) (p pl : List Int) (hp : isP p = true) (hpl : PlOK p.length pl) (w : World) (h : Arg w B A n c p) (h' : Arg w B' A' n' c' pl) :
    Calls Try.prog 93 #[.slice A n c, .slice A' n' c'] w (GivesI w (nums p pl)) := by
  obtain ⟨i0, hi, hz0, hz1, hz2⟩ := info_parts intInfo
  have hl := h'.len
  have hlp := h.len
  have hr := h.reads
  have hr' := h'.reads
  have hB := h.under
  have hB' := h'.under
  have hn8 : n ≤ 8 := by have := isP_le hp; omega
  have hn8' : n' ≤ 8 := by have := plOK_le hpl; omega
  have HP := hide (fun k (hk : k < n') => show 1 ≤ at0 pl k ∧ at0 pl k ≤ (n : Int) from by have := hpl.rng (i := k) (by omega); omega)
  have HL := hide (show pl.length = n' from hl)
  have HLP := hide (show p.length = n from hlp)
  obtain ⟨zs, hzs⟩ : ∃ zs, zs = nums p pl := ⟨_, rfl⟩
  have hlz : zs.length = n' := by rw [hzs, nums_length]; exact hl
  have HAT := hide (show ∀ (k : Nat) (z y : Int), k < n' → pl[k]? = some z → p[z.toNat - 1]? = some y → zs[k]? = some y from fun k z y hk hz hy => by
    have h1 := at0_some (l := nums p pl) (k := k) (by rw [nums_length]; omega)
    rw [nums_at0 (by omega), at0_of hz, at0_of hy] at h1
    rw [hzs]; exact h1)
  rw [← hzs]
  have HLZ := hide hlz
  clear hl hlp hp hpl h h' hzs hlz
  have hst := Below.refl w.heap.size w
  have hs0 := hst.size
  go_enter Try.func93, Try.ntmps93
  go_wp2_with (first
    | (at_make; refine wpList_make_full _ rfl (.tmp 9) (.tmp 9) 24 rfl w.heap.size 3 i0 (.int .i64 0) 1 Try.underlying24 hi hz0 hz1 _ _ _ _ n' rfl rfl (by first | rfl | omega) (by first | rfl | omega) (by rw [hz2]; omega) (by unfold maxLen; omega) hs0 ?_; intro w3 hown hg))
  have hb1 := hst.grown hg hs0 (by simp)
  clear hg hst
  obtain ⟨g, hg⟩ : ∃ g, g = w.heap.size := ⟨_, rfl⟩
  obtain ⟨xs0, hown2⟩ : ∃ xs0, w3.ownsRow w.heap.size 3 1 (.slice (some ⟨g, 0, none⟩) n' n') n' xs0 := by rw [hg]; exact ⟨_, hown⟩
  rw [← hg]
  clear hg hown
  go_loopw [6, 7, 13] (fun _ _ i wr => ∃ (k : Nat) (xs : List Value), k ≤ n' ∧ i = .int .i64 k ∧ Below w.heap.size w wr ∧ wr.ownsRow w.heap.size 3 1 (.slice (some ⟨g, 0, none⟩) n' n') n' xs ∧ Hid (xs.take k = (i64s zs).take k)) (fun _ _ i _ => n' - (intOf i).toNat)
  case atStart => exact ⟨0, _, Nat.zero_le _, rfl, hb1, hown2, by exact rfl⟩
  case round =>
    obtain ⟨k, xs, hk, rfl, hb, hown', hx⟩ := hrel
    clear hown2 hb1 hs0
    have hlx : xs.length = n' := by simpa using hown'.1
    by_cases hlt : k < n'
    · obtain ⟨ad, u, rfl, had, hu, hc⟩ := ((hr'.more hB').below hb).at_ hlt
      obtain ⟨z, hz, rfl⟩ := i64_at hu
      have hz9 : at0 pl k = z := at0_of hz
      obtain ⟨hz1', hz2'⟩ := unhide HP k hlt
      rw [hz9] at hz1' hz2'
      have hzn : z.toNat - 1 < n := by omega
      obtain ⟨ad2, u2, rfl, had2, hu2, hc2⟩ := ((hr.more hB).below hb).at_ hzn
      obtain ⟨y, hy, rfl⟩ := i64_at hu2
      obtain ⟨old, hold⟩ : ∃ old, wr.cell? ⟨g, k, none⟩ = some old := ⟨_, by rw [hown'.cellAt k (by omega)]; exact List.getElem?_eq_getElem (by omega)⟩
      have hfz := hown'.frozenAt k
      have hst := hide (take_set_i (unhide hx) (i64_get (unhide HAT k z y hlt hz hy)) (by omega))
      have ho2 := (hown'.stored k (.int .i64 y)).1
      have hb2 := below_set_i hb hown' k (.int .i64 y)
      clear hx hlx hu hu2 hz hy hown' hb
      go_wp2
      go_roundw
      case rel => exact ⟨k + 1, _, by omega, by go_num, hb2, ho2, hst⟩
      case measure => simp [intOf]; omega
    · obtain rfl : n' = k := by omega
      have hl3 : zs.length = n' := unhide HLZ
      have : xs = i64s zs := by
        have h := unhide hx
        rwa [List.take_of_length_le (by omega), List.take_of_length_le (by rw [i64_length]; omega)] at h
      subst this
      have hI : Ints wr w.heap.size (.slice (some ⟨g, 0, none⟩) n' n') zs := Ints.of_own hown'
      have hI4 := hI.low (Nat.le_refl _)
      clear hx hlx hown' hI
      go_wp2
      go_ret
      exact GivesI.mk hI4 hb
set_option maxHeartbeats 800000 in
theorem ipatat_any (A A' : Option Addr) (n c B n' c' B' : Nat) (p pl : List Int) (hp : isP p = true) (hpl : PlOK p.length pl) (w : World) (h : Arg w B A n c p) (h' : Arg w B' A' n' c' pl) :
    Calls Try.prog 57 #[.slice A n c, .slice A' n' c'] w (GivesI w (patA p pl)) := by
  have HSM := hide (show Small (nums p pl) from fun z hz => by
    obtain ⟨x, hx, rfl⟩ := List.mem_map.1 hz
    have hx2 := hpl.1 x hx
    have := isP_le hp
    have := isP_range hp (at0_some (show x.toNat - 1 < p.length by omega))
    omega)
  have hn8' : (nums p pl).length ≤ 8 := by have := plOK_le hpl; have := isP_le hp; rw [nums_length]; omega
  have HOK := hide (nums_patOK hp hpl)
  have H0 := hide (inums_any A A' n c B n' c' B' p pl hp hpl w h h')
  have hst := Below.refl w.heap.size w
  unfold patA
  obtain ⟨zs, hzs⟩ : ∃ zs, zs = nums p pl := ⟨_, rfl⟩
  rw [← hzs] at HSM HOK H0 hn8' ⊢
  clear h h' hp hpl hzs
  go_enter Try.func57, Try.ntmps57
  go_wp2_with fail
  refine (unhide H0).mono ?_
  rintro e w3 ⟨A3, c3, rfl, o3, hb3⟩
  have hA := o3.arg (by omega) o3.cap (unhide HSM)
  have H1 := hide (ipat_any A3 zs.length c3 _ zs true (unhide HOK) w3 hA)
  clear H0 o3 hA
  go_wp2_with fail
  refine (unhide H1).mono ?_
  rintro e w4 ⟨A4, c4, rfl, o4, hb4⟩
  rw [patR_yes (unhide HOK)] at o4 ⊢
  have hI4 := o4.low hb3.size
  have hb5 := below_after hb3 hb4
  clear H1 o4 hb4
  go_wp2
  go_ret
  exact GivesI.mk hI4 hb5
end Go.Proofs.Ytichenjbkclljaa


/-
  impl.chooseMore: the choices that begin with the places in the buffer, handed to yield one after the other; the buffer is lent.
-/

namespace Go.Proofs.Ytichenjbkclljaa
set_option maxRecDepth 100000
open Go.RowKit Go.Shelf
attribute [local go_sem] Oper.semAt_some

theorem chK_le (n m : Nat) (head : List Int) : ∀ {i j : Nat}, i ≤ j → (chK n m head i).length ≤ (chK n m head j).length := by
  intro i j h
  induction h with
  | refl => exact Nat.le_refl _
  | step h ih => rw [Nat.succ_eq_add_one, chK_step, List.length_append]; omega
/-- What lies in the buffer, block g. -/
def Buf (g K : Nat) (head : List Int) (W : World) : Prop := W.ownsRow g 3 1 (.slice (some ⟨g, 0, none⟩) head.length K) head.length (i64s head)
theorem Buf.kept {g K : Nat} {head : List Int} {W W' : World} (h : Buf g K head W) (hk : W'.heap[g]? = W.heap[g]?) : Buf g K head W' := by
  refine ⟨h.1, ?_⟩
  rcases h.2 with hn | ⟨g', cap, cur, hv, hb, hc, rest⟩
  · exact .inl hn
  · refine .inr ⟨g', cap, cur, hv, hb, ?_, rest⟩
    have : g' = g := by injection hv with h1; injection h1 with h2; injection h2 with h3; exact h3.symm
    subst this
    exact hk.trans hc
theorem Buf.lt {g K : Nat} {head : List Int} {W : World} (h : Buf g K head W) : g < W.heap.size := (World.ownsRow.lt h g rfl).2
theorem Buf.alloc {g K : Nat} {head : List Int} {W : World} (h : Buf g K head W) (o : Obj) : Buf g K head (W.alloc o) := h.kept (Below.heap_alloc W o g h.lt)
theorem Buf.ints {g K : Nat} {head : List Int} {W : World} (h : Buf g K head W) : Ints W g (.slice (some ⟨g, 0, none⟩) head.length K) head := Ints.of_own h
theorem Buf.back {g K : Nat} {head : List Int} {x : Int} {W : World} (h : Buf g K (head ++ [x]) W) : Buf g K head W := by
  unfold Buf at h
  have h1 := own_cut (s := head.length) h (by simp)
  rw [← i64_append, List.take_append_of_le_length (by rw [i64_length]; exact Nat.le_refl _), List.take_of_length_le (by rw [i64_length]; exact Nat.le_refl _)] at h1
  exact h1
/-- What chooseMore gives. -/
def Went (J Jx : List (List Int) → World → Prop) (g K : Nat) (head : List Int) (pre R : List (List Int)) (V : World) (e : Ending) (V' : World) : Prop :=
  (e = .returned (.bool true) ∧ J (pre ++ R) V' ∧ Buf g K head V' ∧ V.heap.size ≤ V'.heap.size) ∨ (e = .returned (.bool false) ∧ ∃ xs, Jx (pre ++ xs) V')
/-- What yield is asked to give. -/
def Lends (l g K n hi N : Nat) (J Jx : List (List Int) → World → Prop) : Prop :=
  ∀ m pre x V, J pre V → Buf g K x V → x.length = K → PlOK n x → hi ≤ V.heap.size → pre.length < N → YieldAt Fence.wide m Try.prog l #[.slice (some ⟨g, 0, none⟩) K K] V fun e V' => ∃ b : Bool, e = .returned (.bool b) ∧ (b = true → J (pre ++ [x]) V' ∧ V.heap.size ≤ V'.heap.size ∧ V'.heap[g]? = V.heap[g]?) ∧ (b = false → Jx (pre ++ [x]) V')

set_option maxRecDepth 100000 in
set_option maxHeartbeats 2000000 in
theorem more_zero (l g K n hi N : Nat) (J Jx : List (List Int) → World → Prop) (hY : Lends l g K n hi N J Jx) (head : List Int) (pre : List (List Int)) (k : Nat) (V : World) (hl : head.length = K) (hp : PlOK n head) (hj : J pre V) (hb : Buf g K head V) (hz : hi ≤ V.heap.size) (hN : pre.length < N) :
    CallsIn Fence.wide k Try.prog 92 #[.slice (some ⟨g, 0, none⟩) head.length K, .int .i64 n, .int .i64 K, .func (.yield l) #[] #[]] V (Went J Jx g K head pre [head] V) := by
  subst hl
  obtain ⟨fn, tmps, assign, body, hy, hR⟩ := hY (k - 1) pre head V hj hb rfl hp hz hN
  have hlt := hb.lt
  refine callsIn_of_wp Try.func92 rfl trivial ?_ rfl
  simp only [Try.ntmps92, List.size_toArray, List.length_cons, List.length_nil, Nat.reduceAdd, Nat.reduceSub, Array.replicate_succ, Array.replicate_zero, List.push_toArray, List.append_toArray, List.nil_append, List.cons_append]
  clear hY hj
  gi_wp2_with fail
  refine And.intro (fun h => absurd h (by decide)) ?_
  refine hR.mono ?_
  rintro e V2 ⟨b, rfl, h1, h2⟩
  clear hR hy
  cases b with
  | true =>
    obtain ⟨hj2, hs2, hg2⟩ := h1 rfl
    clear h1 h2
    gi_wp2
    go_ret
    exact .inl ⟨rfl, hj2, hb.kept hg2, hs2⟩
  | false =>
    have hx := h2 rfl
    clear h1 h2
    gi_wp2
    go_ret
    exact .inr ⟨rfl, [head], hx⟩

set_option maxRecDepth 100000 in
set_option maxHeartbeats 4000000 in
theorem more_stepA (l g K n lo hi N : Nat) (hlo : lo ≤ g) (hhi : g < hi) (hn8 : n ≤ 8) (J Jx : List (List Int) → World → Prop) (hJ : ∀ pre U V, J pre U → But lo hi U V → J pre V) (m : Nat)
    (ih : ∀ (head : List Int) (pre : List (List Int)) (k : Nat) (V : World), head.length + m = K → PlOK n head → J pre V → Buf g K head V → hi ≤ V.heap.size → pre.length + (chL n m head).length ≤ N →
      CallsIn Fence.wide k Try.prog 92 #[.slice (some ⟨g, 0, none⟩) head.length K, .int .i64 n, .int .i64 K, .func (.yield l) #[] #[]] V (Went J Jx g K head pre (chL n m head) V))
    (pre : List (List Int)) (k : Nat) (V : World) (hl : 0 + (m + 1) = K) (hp : PlOK n []) (hj : J pre V) (hb : Buf g K [] V) (hz : hi ≤ V.heap.size) (hN : pre.length + (chL n (m + 1) []).length ≤ N) :
    CallsIn Fence.wide k Try.prog 92 #[.slice (some ⟨g, 0, none⟩) 0 K, .int .i64 n, .int .i64 K, .func (.yield l) #[] #[]] V (Went J Jx g K [] pre (chL n (m + 1) []) V) := by
  obtain ⟨i0, hi0, hz0, hi1, hz2⟩ := info_parts intInfo
  have hne : ((0 : Int) == (K : Int)) = false := by rw [beq_eq_false_iff_ne]; omega
  refine callsIn_of_wp Try.func92 rfl trivial ?_ rfl
  simp only [Try.ntmps92, List.size_toArray, List.length_cons, List.length_nil, Nat.reduceAdd, Nat.reduceSub, Array.replicate_succ, Array.replicate_zero, List.push_toArray, List.append_toArray, List.nil_append, List.cons_append]
  gi_wp2_with fail
  gi_loopw [9] (fun nx wr => ∃ j : Nat, j ≤ n - lastP [] ∧ nx = .int .i64 ((lastP [] + j + 1 : Nat) : Int) ∧ J (pre ++ chK n m [] j) wr ∧ Buf g K [] wr ∧ hi ≤ wr.heap.size ∧ V.heap.size ≤ wr.heap.size) (fun nx _ => n + 1 - (intOf nx).toNat)
  case atStart => exact ⟨0, Nat.zero_le _, rfl, by rw [chK_zero, List.append_nil]; exact hj, hb, hz, Nat.le_refl _⟩
  case round =>
    obtain ⟨j, hjn, rfl, hj1, hb1, hz1, hs1⟩ := hrel
    clear hj hb hz
    by_cases hlt : j < n - lastP []
    · obtain ⟨x, hx⟩ : ∃ x : Nat, x = lastP [] + j + 1 := ⟨_, rfl⟩
      have hxn : x ≤ n := by omega
      have hle : ((x : Nat) : Int) ≤ (n : Int) := by omega
      have H1 := hide (show ∀ w', (wr.alloc (.cells #[.int .i64 (x : Int)] 3)).grownBy w' (some g) → w'.ownsRow g 3 1 (.slice (some ⟨g, 0, none⟩) 1 K) 1 ([.int .i64 (x : Int)]) →
          CallsIn Fence.wide (k - 1) Try.prog 92 #[.slice (some ⟨g, 0, none⟩) 1 K, .int .i64 n, .int .i64 K, .func (.yield l) #[] #[]] w' fun e V' => (e = .returned (.bool true) ∧ J (pre ++ chK n m [] (j + 1)) V' ∧ Buf g K [] V' ∧ w'.heap.size ≤ V'.heap.size) ∨ (e = .returned (.bool false) ∧ ∃ xs, Jx (pre ++ xs) V') from fun w' hg' ho' => by
        have hok : PlOK n ([] ++ [((lastP [] + j + 1 : Nat) : Int)]) := PlOK.snoc.2 ⟨hp, by omega, by omega⟩
        have hbut : But lo hi wr w' := (But.alloc _ _).trans (But.grown hg' fun k e => by cases e; exact ⟨hlo, hhi⟩)
        have hN2 : (pre ++ chK n m [] j).length + (chL n m ([] ++ [((lastP [] + j + 1 : Nat) : Int)])).length ≤ N := by
          have h1 := chK_le n m [] (show j + 1 ≤ n - lastP [] by omega)
          rw [chK_step, List.length_append] at h1
          rw [chK_all] at h1
          rw [List.length_append]; omega
        have hsz' := hg'.size
        have hrec := ih ([] ++ [((lastP [] + j + 1 : Nat) : Int)]) (pre ++ chK n m [] j) (k - 1) w' (by simp; omega) hok (hJ _ _ _ hj1 hbut) (by show w'.ownsRow g 3 1 (.slice (some ⟨g, 0, none⟩) 1 K) 1 [.int .i64 ((lastP [] + j + 1 : Nat) : Int)]; rw [← hx]; exact ho') (by simp at hsz'; omega) hN2
        refine (show CallsIn Fence.wide (k - 1) Try.prog 92 #[.slice (some ⟨g, 0, none⟩) 1 K, .int .i64 n, .int .i64 K, .func (.yield l) #[] #[]] w' _ from hrec).mono ?_
        rintro e V' (⟨rfl, h1, h2, h3⟩ | ⟨rfl, xs, h1⟩)
        · exact .inl ⟨rfl, by rw [chK_step, ← List.append_assoc]; exact h1, h2.back, h3⟩
        · exact .inr ⟨rfl, _, by rw [← List.append_assoc]; exact h1⟩)
      rw [← hx]
      have hown : (wr.alloc (.cells #[.int .i64 (x : Int)] 3)).ownsRow g 3 1 (.slice (some ⟨g, 0, none⟩) 0 K) 0 [] := hb1.alloc _
      have hroom : 1 ≤ K := by omega
      have HX := hide hx
      clear ih hJ hp hN hjn hlt hx hxn hj1
      gi_wp2_with (first
        | (gi_at_builtin; refine wpListIn_append_fits _ rfl (.tmp 32) (.tmp 34) 24 rfl g 3 i0 1 Try.underlying24 hi0 hi1 g 0 K [] rfl hown ⟨wr.heap.size, 0, none⟩ 1 1 [.int .i64 (x : Int)] rfl rfl (cell_one_new _ _ _) (by simp [Value.oneCell']) hroom ?_; intro w' hown' hg'; have H2 := hide (unhide H1 w' hg' hown'); have hsz' := hg'.size; clear H1 hown hown' hg'))
      refine And.intro trivial (And.intro (fun h => absurd h (by decide)) ?_)
      refine (unhide H2).mono ?_
      rintro e V1 (⟨rfl, hj2, hb2, hs2⟩ | ⟨rfl, xs, hx2⟩)
      · clear H2
        have hx := unhide HX
        have hsz2 : wr.heap.size ≤ V1.heap.size := by simp at hsz'; omega
        clear hsz' hs2
        gi_wp2
        go_roundw
        case rel => exact ⟨j + 1, by have := unhide HX; omega, by have := unhide HX; go_num, hj2, hb2, by omega, by omega⟩
        case measure => have := unhide HX; simp [intOf]; omega
      · clear H2
        gi_wp2
        go_ret
        exact .inr ⟨rfl, xs, hx2⟩
    · have hje : j = n - lastP [] := by omega
      have hle := lastP_le hp
      have hgt : ¬ (((lastP [] + j + 1 : Nat) : Int) ≤ (n : Int)) := by omega
      rw [hje, chK_all] at hj1
      clear hje ih hJ hp hN hjn hlt
      gi_wp2
      go_ret
      exact .inl ⟨rfl, hj1, hb1, hs1⟩

set_option maxRecDepth 100000 in
set_option maxHeartbeats 4000000 in
theorem more_stepB (l g K n lo hi N : Nat) (hlo : lo ≤ g) (hhi : g < hi) (hn8 : n ≤ 8) (J Jx : List (List Int) → World → Prop) (hJ : ∀ pre U V, J pre U → But lo hi U V → J pre V) (m : Nat)
    (ih : ∀ (head : List Int) (pre : List (List Int)) (k : Nat) (V : World), head.length + m = K → PlOK n head → J pre V → Buf g K head V → hi ≤ V.heap.size → pre.length + (chL n m head).length ≤ N →
      CallsIn Fence.wide k Try.prog 92 #[.slice (some ⟨g, 0, none⟩) head.length K, .int .i64 n, .int .i64 K, .func (.yield l) #[] #[]] V (Went J Jx g K head pre (chL n m head) V))
    (head : List Int) (hcase : 0 < head.length) (pre : List (List Int)) (k : Nat) (V : World) (hl : head.length + (m + 1) = K) (hp : PlOK n head) (hj : J pre V) (hb : Buf g K head V) (hz : hi ≤ V.heap.size) (hN : pre.length + (chL n (m + 1) head).length ≤ N) :
    CallsIn Fence.wide k Try.prog 92 #[.slice (some ⟨g, 0, none⟩) head.length K, .int .i64 n, .int .i64 K, .func (.yield l) #[] #[]] V (Went J Jx g K head pre (chL n (m + 1) head) V) := by
  obtain ⟨i0, hi0, hz0, hi1, hz2⟩ := info_parts intInfo
  have hne : ((head.length : Int) == (K : Int)) = false := by rw [beq_eq_false_iff_ne]; omega
  have hc0 : 0 < (head.length : Int) := by omega
  have hlast := lastP_at hcase
  have hr := hp.rng (i := head.length - 1) (by omega)
  have hb0 : (0 : Int) ≤ (head.length : Int) - 1 := by omega
  have hb1' : (head.length : Int) - 1 < (head.length : Int) := by omega
  have hwr : IntKind.i64.wrap ((head.length : Int) - 1) = (head.length : Int) - 1 := by rw [IntKind.wrap_i64]; have := plOK_le hp; omega
  have hti : ((head.length : Int) - 1).toNat = head.length - 1 := by omega
  have hcell : V.cell? ⟨g, head.length - 1, none⟩ = some (.int .i64 (at0 head (head.length - 1))) := by
    rw [World.ownsRow.cellAt hb (head.length - 1) (by omega)]
    exact i64_get (at0_some (by omega))
  have hwr2 : IntKind.i64.wrap (at0 head (head.length - 1) + 1) = at0 head (head.length - 1) + 1 := by rw [IntKind.wrap_i64]; omega
  refine callsIn_of_wp Try.func92 rfl trivial ?_ rfl
  simp only [Try.ntmps92, List.size_toArray, List.length_cons, List.length_nil, Nat.reduceAdd, Nat.reduceSub, Array.replicate_succ, Array.replicate_zero, List.push_toArray, List.append_toArray, List.nil_append, List.cons_append]
  gi_wp2_with fail
  gi_loopw [9] (fun nx wr => ∃ j : Nat, j ≤ n - lastP head ∧ nx = .int .i64 ((lastP head + j + 1 : Nat) : Int) ∧ J (pre ++ chK n m head j) wr ∧ Buf g K head wr ∧ hi ≤ wr.heap.size ∧ V.heap.size ≤ wr.heap.size) (fun nx _ => n + 1 - (intOf nx).toNat)
  case atStart => exact ⟨0, Nat.zero_le _, by rw [hlast]; congr 1; omega, by rw [chK_zero, List.append_nil]; exact hj, hb, hz, Nat.le_refl _⟩
  case round =>
    obtain ⟨j, hjn, rfl, hj1, hb1, hz1, hs1⟩ := hrel
    clear hj hb hz
    by_cases hlt : j < n - lastP head
    · obtain ⟨x, hx⟩ : ∃ x : Nat, x = lastP head + j + 1 := ⟨_, rfl⟩
      have hxn : x ≤ n := by omega
      have hle : ((x : Nat) : Int) ≤ (n : Int) := by omega
      have H1 := hide (show ∀ w', (wr.alloc (.cells #[.int .i64 (x : Int)] 3)).grownBy w' (some g) → w'.ownsRow g 3 1 (.slice (some ⟨g, 0, none⟩) (head.length + 1) K) (head.length + 1) (i64s head ++ [.int .i64 (x : Int)]) →
          CallsIn Fence.wide (k - 1) Try.prog 92 #[.slice (some ⟨g, 0, none⟩) (head.length + 1) K, .int .i64 n, .int .i64 K, .func (.yield l) #[] #[]] w' fun e V' => (e = .returned (.bool true) ∧ J (pre ++ chK n m head (j + 1)) V' ∧ Buf g K head V' ∧ w'.heap.size ≤ V'.heap.size) ∨ (e = .returned (.bool false) ∧ ∃ xs, Jx (pre ++ xs) V') from fun w' hg' ho' => by
        have hok : PlOK n (head ++ [((lastP head + j + 1 : Nat) : Int)]) := PlOK.snoc.2 ⟨hp, by omega, by omega⟩
        have hbut : But lo hi wr w' := (But.alloc _ _).trans (But.grown hg' fun k e => by cases e; exact ⟨hlo, hhi⟩)
        have hN2 : (pre ++ chK n m head j).length + (chL n m (head ++ [((lastP head + j + 1 : Nat) : Int)])).length ≤ N := by
          have h1 := chK_le n m head (show j + 1 ≤ n - lastP head by omega)
          rw [chK_step, List.length_append] at h1
          rw [chK_all] at h1
          rw [List.length_append]; omega
        have hsz' := hg'.size
        have hrec := ih (head ++ [((lastP head + j + 1 : Nat) : Int)]) (pre ++ chK n m head j) (k - 1) w' (by simp; omega) hok (hJ _ _ _ hj1 hbut) (by unfold Buf; rw [List.length_append, List.length_singleton, ← i64_append, ← hx]; exact ho') (by simp at hsz'; omega) hN2
        rw [List.length_append, List.length_singleton] at hrec
        refine hrec.mono ?_
        rintro e V' (⟨rfl, h1, h2, h3⟩ | ⟨rfl, xs, h1⟩)
        · exact .inl ⟨rfl, by rw [chK_step, ← List.append_assoc]; exact h1, h2.back, h3⟩
        · exact .inr ⟨rfl, _, by rw [← List.append_assoc]; exact h1⟩)
      rw [← hx]
      have hown : (wr.alloc (.cells #[.int .i64 (x : Int)] 3)).ownsRow g 3 1 (.slice (some ⟨g, 0, none⟩) head.length K) head.length (i64s head) := hb1.alloc _
      have hroom : head.length + 1 ≤ K := by omega
      have HX := hide hx
      clear ih hJ hp hN hjn hlt hx hxn hj1
      gi_wp2_with (first
        | (gi_at_builtin; refine wpListIn_append_fits _ rfl (.tmp 32) (.tmp 34) 24 rfl g 3 i0 1 Try.underlying24 hi0 hi1 g head.length K (i64s head) rfl hown ⟨wr.heap.size, 0, none⟩ 1 1 [.int .i64 (x : Int)] rfl rfl (cell_one_new _ _ _) (by simp [Value.oneCell']) hroom ?_; intro w' hown' hg'; have H2 := hide (unhide H1 w' hg' hown'); have hsz' := hg'.size; clear H1 hown hown' hg'))
      refine And.intro trivial (And.intro (fun h => absurd h (by decide)) ?_)
      refine (unhide H2).mono ?_
      rintro e V1 (⟨rfl, hj2, hb2, hs2⟩ | ⟨rfl, xs, hx2⟩)
      · clear H2
        have hx := unhide HX
        have hsz2 : wr.heap.size ≤ V1.heap.size := by simp at hsz'; omega
        clear hsz' hs2
        gi_wp2
        go_roundw
        case rel => exact ⟨j + 1, by have := unhide HX; omega, by have := unhide HX; go_num, hj2, hb2, by omega, by omega⟩
        case measure => have := unhide HX; simp [intOf]; omega
      · clear H2
        gi_wp2
        go_ret
        exact .inr ⟨rfl, xs, hx2⟩
    · have hje : j = n - lastP head := by omega
      have hle := lastP_le hp
      have hgt : ¬ (((lastP head + j + 1 : Nat) : Int) ≤ (n : Int)) := by omega
      rw [hje, chK_all] at hj1
      clear hje ih hJ hp hN hjn hlt
      gi_wp2
      go_ret
      exact .inl ⟨rfl, hj1, hb1, hs1⟩

theorem more_any (l g K n lo hi N : Nat) (hlo : lo ≤ g) (hhi : g < hi) (hn8 : n ≤ 8) (J Jx : List (List Int) → World → Prop) (hJ : ∀ pre U V, J pre U → But lo hi U V → J pre V) (hY : Lends l g K n hi N J Jx) :
    ∀ (m : Nat) (head : List Int) (pre : List (List Int)) (k : Nat) (V : World), head.length + m = K → PlOK n head → J pre V → Buf g K head V → hi ≤ V.heap.size → pre.length + (chL n m head).length ≤ N →
      CallsIn Fence.wide k Try.prog 92 #[.slice (some ⟨g, 0, none⟩) head.length K, .int .i64 n, .int .i64 K, .func (.yield l) #[] #[]] V (Went J Jx g K head pre (chL n m head) V)
  | 0, head, pre, k, V, hl, hp, hj, hb, hz, hN => more_zero l g K n hi N J Jx hY head pre k V hl hp hj hb hz (by rw [chL, List.length_singleton] at hN; omega)
  | m + 1, head, pre, k, V, hl, hp, hj, hb, hz, hN => by
    have ih := more_any l g K n lo hi N hlo hhi hn8 J Jx hJ hY m
    by_cases h0 : head.length = 0
    · obtain rfl := List.eq_nil_of_length_eq_zero h0
      exact more_stepA l g K n lo hi N hlo hhi hn8 J Jx hJ m ih pre k V hl hp hj hb hz hN
    · exact more_stepB l g K n lo hi N hlo hhi hn8 J Jx hJ m ih head (by omega) pre k V hl hp hj hb hz hN
end Go.Proofs.Ytichenjbkclljaa


/-
  impl.choices: an iterator over the choices in order; the list is lent.
-/

namespace Go.Proofs.Ytichenjbkclljaa
set_option maxRecDepth 100000
open Go.RowKit Go.Shelf
attribute [local go_sem] Oper.semAt_some

theorem boxed_later {W W' : World} {b : Nat} {t : TypeId} {v : Value} (h : Boxed W b t v) (hb : Below W.heap.size W W') : Boxed W' b t v := (hb.block b h.lt).trans h
theorem icho_any (n K : Int) (w : World) :
    Calls Try.prog 56 #[.int .i64 n, .int .i64 K] w fun e w' => e = .returned (.func (.func 91) #[] #[.pointer (some ⟨w.heap.size + 1, 0, none⟩), .pointer (some ⟨w.heap.size, 0, none⟩)]) ∧ w' = (w.alloc (.cells #[.int .i64 n] 3)).alloc (.cells #[.int .i64 K] 3) := by
  go_enter Try.func56, Try.ntmps56
  go_wp2
  go_ret
  exact ⟨rfl, rfl⟩

set_option maxRecDepth 100000 in
set_option maxHeartbeats 2000000 in
theorem choices_tell (n K N bn bk : Nat) (hn8 : n ≤ 8) (hK8 : K ≤ 8) (hN : (chR n K).length ≤ N) (m : Nat) (w : World) (hbn : Boxed w bn 3 (.int .i64 n)) (hbk : Boxed w bk 3 (.int .i64 K)) :
    TellsZ Fence.wide m Try.prog 91 #[.pointer (some ⟨bk, 0, none⟩), .pointer (some ⟨bn, 0, none⟩)] 1 (fun _ : List Int => #[.slice (some ⟨w.heap.size + 2, 0, none⟩) K K]) (fun _ x V => Buf (w.heap.size + 2) K x V ∧ x.length = K ∧ PlOK n x)
      (fun V V' => V.heap.size ≤ V'.heap.size ∧ V'.heap[w.heap.size + 2]? = V.heap[w.heap.size + 2]?) (fun xs => xs = chR n K) (fun _ => True) N w := by
  intro l J Jx W hW hsz hJ hJx hY h0
  obtain ⟨i0, hi, hz0, hz1, hz2⟩ := info_parts intInfo
  have hcn := Boxed.cell (boxed_later hbn hW)
  have hck := Boxed.cell (boxed_later hbk hW)
  obtain ⟨w3, hrun, hown, hg⟩ := run_make_own (P := Try.prog) W.drew W.heap.size 24 3 i0 (.int .i64 0) 1 Try.underlying24 hi hz0 hz1 .i64 .i64 K (by rw [hz2]; omega) (by unfold maxLen; omega) (Nat.le_refl _)
  have hb3 := (below_drew W.heap.size W).grown hg (Nat.le_refl _) (by simp)
  have hlt := (Array.getElem?_eq_some_iff.1 hbn).1
  have hlt' := (Array.getElem?_eq_some_iff.1 hbk).1
  have hcn3 := (hb3.cell (p := ⟨bn, 0, none⟩) (by rw [hsz]; show bn < _; omega)).trans hcn
  have hck3 := (hb3.cell (p := ⟨bk, 0, none⟩) (by rw [hsz]; show bk < _; omega)).trans hck
  have hs3 : w.heap.size + 2 < w3.heap.size := by rw [← hsz]; exact (World.ownsRow.lt hown _ rfl).2
  have h1 : Buf (w.heap.size + 2) K [] w3 := by unfold Buf; rw [← hsz]; exact hown
  have HM := hide (show CallsIn Fence.wide 0 Try.prog 92 #[.slice (some ⟨w.heap.size + 2, 0, none⟩) 0 K, .int .i64 n, .int .i64 K, .func (.yield l) #[] #[]] w3 (fun e V => ∃ b : Bool, e = .returned (.bool b) ∧ ((∃ xs, xs = chR n K ∧ J xs V) ∨ ∃ pre, True ∧ Jx pre V)) from (more_any l (w.heap.size + 2) K n (w.heap.size + 2) (w.heap.size + 2 + 1) N (Nat.le_refl _) (Nat.lt_succ_self _) hn8 J Jx hJ
    (fun m' pre x V hj hb hxl hok hz hlen => round_any rfl ((hY pre x V V hj hz (Below.refl _ V) ⟨hb, hxl, hok⟩ hlen).mono (by
      rintro e V' (⟨rfl, h1, h2, h3⟩ | ⟨rfl, h1, _⟩)
      · exact ⟨true, rfl, fun _ => ⟨h1, h2, h3⟩, fun h => by cases h⟩
      · exact ⟨false, rfl, fun h => by (cases h), fun _ => h1⟩)))
    K [] [] 0 w3 (by simp) (PlOK.nil n) (hJ _ _ _ h0 ((But.of_below (hsz ▸ hb3)))) h1 (by omega) (by rw [List.length_nil, Nat.zero_add]; exact hN)).mono (by
      rintro e V (⟨rfl, h1, _⟩ | ⟨rfl, xs, h1⟩)
      · exact ⟨true, rfl, .inl ⟨_, rfl, h1⟩⟩
      · exact ⟨false, rfl, .inr ⟨_, trivial, h1⟩⟩))
  rw [show W.drew.heap.size = w.heap.size + 2 from hsz] at hrun
  change CallsIn Fence.wide m Try.prog 91 #[.func (.yield l) #[] #[], .pointer (some ⟨bk, 0, none⟩), .pointer (some ⟨bn, 0, none⟩)] W _
  refine callsIn_wide.2 ?_
  clear hY hJ hJx h0 hW hbn hbk h1 hown hg
  go_enter Try.func91, Try.ntmps91
  go_wp2_with fail
  have hcn0 : W.drew.cell? ⟨bn, 0, none⟩ = some (.int .i64 n) := hcn
  have hck0 : W.drew.cell? ⟨bk, 0, none⟩ = some (.int .i64 K) := hck
  go_region_with
    (first
      | (go_simp; go_at_call 92; refine (callsIn_wide.1 (unhide HM)).mono ?_; rintro e w4 ⟨b, rfl, h4⟩))
  all_goals go_wp2
  all_goals go_end0
  all_goals exact ⟨⟨_, rfl⟩, h4⟩
end Go.Proofs.Ytichenjbkclljaa


/-
  impl.occurrences: an iterator over the occurrences in order; each list is new.
-/

namespace Go.Proofs.Ytichenjbkclljaa
set_option maxRecDepth 100000
open Go.RowKit Go.Shelf
attribute [local go_sem] Oper.semAt_some

theorem arg_kept {w w' : World} {B n c : Nat} {A : Option Addr} {zs : List Int} (h : Arg w B A n c zs) (hs : w.heap.size ≤ w'.heap.size) (hk : ∀ k, k < B → w'.heap[k]? = w.heap[k]?) : Arg w' B A n c zs :=
  ⟨h.reads.keep fun p hp => by unfold World.cell?; rw [hk p.block hp], Nat.le_trans h.under hs, h.le, h.cap, h.small, h.nil⟩
theorem iocs_made (A A' : Option Addr) (n c n' c' : Nat) (w : World) :
    Calls Try.prog 50 #[.slice A n c, .slice A' n' c'] w fun e w' => e = .returned (.func (.func 87) #[] #[.pointer (some ⟨w.heap.size, 0, none⟩), .pointer (some ⟨w.heap.size + 1, 0, none⟩)]) ∧ w' = (w.alloc (.cells #[.slice A n c] 24)).alloc (.cells #[.slice A' n' c'] 24) := by
  go_enter Try.func50, Try.ntmps50
  go_wp2
  go_ret
  exact ⟨rfl, rfl⟩

/-- What a handed occurrence is. -/
def KnO (p q : List Int) (U : World) (x : Value × List Int) (V : World) : Prop := Ints V U.heap.size x.1 x.2 ∧ x.2 ∈ occR p q
/-- Each of them is one. -/
def AllIn (p q : List Int) (xs : List (Value × List Int)) : Prop := ∀ x ∈ xs, x.2 ∈ occR p q
/-- What the iterator over occurrences needs to lie as it lay. -/
structure KeptO (P : Nat → Prop) (B B' bp bq lo : Nat) : Prop where
  p : ∀ k, k < B → P k
  q : ∀ k, k < B' → P k
  bp : P bp
  bq : P bq
  zone : ∀ k, lo ≤ k → k < lo + 6 → P k
/-- What holds while it runs. -/
structure AtO (A A' : Option Addr) (n c B n' c' B' : Nat) (p q : List Int) (bp bq by_ l : Nat) (V : World) : Prop where
  p : Arg V B A n c p
  q : Arg V B' A' n' c' q
  bp : Boxed V bp 24 (.slice A n c)
  bq : Boxed V bq 24 (.slice A' n' c')
  by_ : Boxed V by_ 41 (.func (.yield l) #[] #[])

theorem AtO.below {A A' : Option Addr} {n c B n' c' B' : Nat} {p q : List Int} {bp bq by_ l : Nat} {U V : World} (h : AtO A A' n c B n' c' B' p q bp bq by_ l U) (hb : Below U.heap.size U V) : AtO A A' n c B n' c' B' p q bp bq by_ l V :=
  ⟨h.p.below hb, h.q.below hb, boxed_later h.bp hb, boxed_later h.bq hb, boxed_later h.by_ hb⟩
theorem AtO.drew {A A' : Option Addr} {n c B n' c' B' : Nat} {p q : List Int} {bp bq by_ l : Nat} {U : World} (h : AtO A A' n c B n' c' B' p q bp bq by_ l U) : AtO A A' n c B n' c' B' p q bp bq by_ l U.drew := h.below (below_drew _ U)
theorem patA_small {p pl : List Int} (hp : isP p = true) (h : PlOK p.length pl) : Small (patA p pl) := fun z hz => by
  obtain ⟨k, hk⟩ := List.getElem?_of_mem hz
  have h1 : isP (patA p pl) = true := by unfold patA; rw [isP_pat]; exact nums_patOK hp h
  have := isP_range h1 hk
  have := isP_le h1
  omega
set_option maxRecDepth 100000 in
set_option maxHeartbeats 4000000 in
theorem occ_tell (A A' : Option Addr) (n c B n' c' B' : Nat) (p q : List Int) (hp : isP p = true) (hq : isP q = true) (P : Nat → Prop) (bp bq N : Nat) (w : World) (hpA : Arg w B A n c p) (hqA : Arg w B' A' n' c' q)
    (hbp : Boxed w bp 24 (.slice A n c)) (hbq : Boxed w bq 24 (.slice A' n' c')) (hk : KeptO P B B' bp bq (w.heap.size + 2)) (m : Nat) (hN : (chR n n').length ≤ N) :
    TellsZ Fence.wide m Try.prog 87 #[.pointer (some ⟨bp, 0, none⟩), .pointer (some ⟨bq, 0, none⟩)] 6 (fun x : Value × List Int => #[x.1]) (KnO p q) (Keep P) (fun xs => xs.map (·.2) = occR p q) (AllIn p q) N w := by
  intro l J Jx W hW hsz hJ hJx hY h0
  change CallsIn Fence.wide m Try.prog 87 #[.func (.yield l) #[] #[], .pointer (some ⟨bp, 0, none⟩), .pointer (some ⟨bq, 0, none⟩)] W _
  have hn8 : n ≤ 8 := by have := isP_le hp; have := hpA.len; omega
  have hn8' : n' ≤ 8 := by have := isP_le hq; have := hqA.len; omega
  have hbpl := Boxed.lt hbp
  have hbql := Boxed.lt hbq
  have hBu := hpA.under
  have hBu' := hqA.under
  -- the world ahead of the loop
  obtain ⟨w1, hw1⟩ : ∃ w1, w1 = W.alloc (.cells #[.func (.yield l) #[] #[]] 41) := ⟨_, rfl⟩
  have hs1 : w1.heap.size = w.heap.size + 3 := by rw [hw1]; simp [hsz]
  have hb1 : Below W.heap.size W w1 := by rw [hw1]; exact (Below.refl _ W).alloc (Nat.le_refl _) _
  obtain ⟨w3, hw3⟩ : ∃ w3, w3 = (w1.alloc (.cells #[.int .i64 n] 3)).alloc (.cells #[.int .i64 n'] 3) := ⟨_, rfl⟩
  have hs3 : w3.heap.size = w.heap.size + 5 := by rw [hw3]; simp [hs1]
  have hb3 : Below w1.heap.size w1 w3 := by rw [hw3]; exact ((Below.refl _ w1).alloc (Nat.le_refl _) _).alloc (by simp) _
  have hbW3 : Below W.heap.size W w3 := below_after hb1 hb3
  have hbw1 : Below w.heap.size w w1 := below_after hW hb1
  have hbw3 : Below w.heap.size w w3 := below_after hW hbW3
  have hby1 : Boxed w1 (w.heap.size + 2) 41 (.func (.yield l) #[] #[]) := by rw [hw1, ← hsz]; exact Boxed.new W _ _
  have hAt : AtO A A' n c B n' c' B' p q bp bq (w.heap.size + 2) l w3 := ⟨hpA.below hbw3, hqA.below hbw3, boxed_later hbp hbw3, boxed_later hbq hbw3, boxed_later hby1 hb3⟩
  have hbn : Boxed w3 (w.heap.size + 3) 3 (.int .i64 n) := by rw [hw3, ← hs1]; exact Boxed.alloc (Boxed.new w1 _ _) _
  have hbk : Boxed w3 (w.heap.size + 4) 3 (.int .i64 n') := by
    have := Boxed.new (w1.alloc (.cells #[.int .i64 n] 3)) 3 (.int .i64 n')
    rw [World.size_alloc, hs1] at this
    rw [hw3]; exact this
  have hJ3 : J [] w3 := hJ _ _ _ h0 (But.of_below hbW3)
  have hseq := choices_tell n n' N (w.heap.size + 3) (w.heap.size + 4) hn8 hn8' hN 3 w3 hbn hbk
  have hcp1 := Boxed.cell (boxed_later hbp hbw1)
  have hcq1 := Boxed.cell (boxed_later hbq hbw1)
  have HC := hide (fun w' => icho_any n n' w')
  refine callsIn_wide.2 ((callsIn_wide (n := 4)).1 ?_)
  refine callsIn_of_wp_marks Try.func87 rfl trivial ?_ rfl
  simp only [Try.ntmps87, List.size_toArray, List.length_cons, List.length_nil, Nat.reduceAdd, Nat.reduceSub, Array.replicate_succ, Array.replicate_zero, List.push_toArray, List.append_toArray, List.nil_append, List.cons_append]
  rw [hw1] at hcp1 hcq1
  have HW1 := hide hw1
  have HW3 := hide hw3
  clear hw1 hw3
  gi_wp2_with fail
  refine ⟨trivial, ?_⟩
  refine (callsIn_wide.2 (unhide HC _)).mono ?_
  rintro e w2 ⟨rfl, hw2⟩
  rw [← unhide HW1, ← unhide HW3] at hw2
  subst hw2
  rw [← unhide HW1, hs1]
  clear HC HW1 HW3 hcp1 hcq1
  have HBD := hide (⟨hk, hJ, hJx⟩ : KeptO P B B' bp bq (w.heap.size + 2) ∧ (∀ pre U V, J pre U → But (w.heap.size + 2) (w.heap.size + 2 + 6) U V → J pre V) ∧ (∀ pre U V, Jx pre U → But (w.heap.size + 2) (w.heap.size + 2 + 6) U V → Jx pre V))
  have HFI := hide (occ_filter hp hq)
  have HIN := hide (show ∀ pl, patA p pl = q → pl.length = n' → PlOK n pl → pl ∈ occR p q from fun pl h1 h2 h3 => by
    have e1 := hpA.len
    have e2 := hqA.len
    exact mem_occ.2 (isOcc_iff.2 ⟨hp, hq, by omega, by rw [e1]; exact h3, h1⟩))
  have e1 := hpA.len
  have e2 := hqA.len
  have hwle := hbw3.size
  clear hW h0 hb1 hb3 hbW3 hbw1 hbw3 hby1 hbn hbk hpA hqA hbp hbq hJ hJx hk hs1
  gi_wp2
  refine range_zone rfl (by decide) (gf := 91) (lb := #[.pointer (some ⟨w.heap.size + 4, 0, none⟩), .pointer (some ⟨w.heap.size + 3, 0, none⟩)]) rfl trivial (enters_of Try.func91 (by kernel_rfl) rfl)
    hseq (fun h k => ⟨Nat.le_trans h.1 k.1, k.2.trans h.2⟩) (fun W r r' hd => ⟨by unfold World.putObj; simp, World.putObj_heap_other (by omega)⟩) (fun _ => rfl) (fun U V x r r' hdU hdV h => ⟨h.1.kept (World.putObj_heap_other (by omega)), h.2⟩)
    (fun pre V => ∃ xs, (J xs V ∧ xs.map (·.2) = pre.filter (fun pl => decide (patA p pl = q))) ∧ AtO A A' n c B n' c' B' p q bp bq (w.heap.size + 2) l V ∧ AllIn p q xs)
    (fun c _ V => c = .ret ∧ ∃ xs, Jx xs V ∧ AllIn p q xs)
    (fun pre U V h hb => by
      obtain ⟨xs, ⟨h1, h2⟩, h3, h4⟩ := h
      exact ⟨xs, ⟨(unhide HBD).2.1 _ _ _ h1 (hb.mono (by omega) (by omega)), h2⟩, ⟨arg_kept h3.p hb.size fun k hk => hb.block k (by have := h3.p.under; omega) (by omega), arg_kept h3.q hb.size fun k hk => hb.block k (by have := h3.q.under; omega) (by omega), Boxed.but h3.bp hb (by omega), Boxed.but h3.bq hb (by omega), Boxed.but h3.by_ hb (by omega)⟩, h4⟩)
    (fun c pre U V h hb => by
      obtain ⟨hc, xs, h1, h2⟩ := h
      exact ⟨hc, xs, (unhide HBD).2.2 _ _ _ h1 (hb.mono (by omega) (by omega)), h2⟩)
    ⟨[], ⟨hJ3, rfl⟩, hAt, fun x hx => by cases hx⟩
    (fun _ => { tmps := #[.func (.yield l) #[] #[], .pointer (some ⟨bp, 0, none⟩), .pointer (some ⟨bq, 0, none⟩), .pointer (some ⟨w.heap.size + 2, 0, none⟩), .slice (some ⟨w2.heap.size + 2, 0, none⟩) n' n', .slice A n c, .int .i64 n, .slice A' n' c', .int .i64 n',
      .func (.func 91) #[] #[.pointer (some ⟨w.heap.size + 4, 0, none⟩), .pointer (some ⟨w.heap.size + 3, 0, none⟩)], .slice (some ⟨w2.heap.size + 2, 0, none⟩) n' n', undef, undef, undef, undef, undef, undef, undef, undef, undef, undef, undef, undef], defers := [] }) ?assign ?body ?done ?stop
  case assign =>
    intro l x W K hK
    clear hs3
    gi_wp2
    exact hK
  case body =>
    rintro l2 pre pl U V ⟨xs, ⟨hJU, hxs⟩, hAtU, hall⟩ hzU hbU ⟨hbuf, hpl, hok⟩ hlen
    obtain ⟨g, hg⟩ : ∃ g, g = w2.heap.size + 2 := ⟨_, rfl⟩
    rw [← hg] at hbuf ⊢
    have hAtV0 := hAtU.below hbU
    have hAtV := hAtV0.drew
    have hJV := (unhide HBD).2.1 _ _ _ hJU (But.of_below hbU)
    have hsm : Small pl := fun z hz => by have := hok.1 z hz; omega
    have hApl := ((hpl ▸ hbuf.ints : Ints V g (.slice (some ⟨g, 0, none⟩) n' n') pl).arg (by omega) (Nat.le_refl _) hsm).drew
    have hcp := Boxed.cell hAtV.bp
    have hcq := Boxed.cell hAtV.bq
    have hcy := Boxed.cell hAtV.by_
    have H1 := hide (ipatat_any A (some ⟨g, 0, none⟩) n c B n' n' _ p pl hp (e1.symm ▸ hok) V.drew hAtV.p hApl)
    have hmx : Try.prog.follows .mixedOrders = true := by kernel_rfl
    by_cases hyes : patA p pl = q
    · have hdec : decide (patA p pl = q) = true := by simpa using hyes
      have H2 := hide (show ∀ (A4 : Option Addr) (c4 : Nat) (w4 : World), Ints w4 V.drew.heap.size (.slice A4 (patA p pl).length c4) (patA p pl) → Below V.drew.heap.size V.drew w4 → Calls Try.prog 68 #[.slice A4 (patA p pl).length c4, .slice A' n' c'] w4 fun e w' => e = .returned (.bool true) ∧ Drew w4 w' from fun A4 c4 w4 h1 h2 =>
        eqsl_any A4 A' _ c4 _ n' c' B' (patA p pl) q true hdec w4 (h1.arg (by unfold patA; rw [patL_length, nums_length]; omega) h1.cap (patA_small hp (e1.symm ▸ hok))) (hAtV.q.below h2))
      have HQ := hide (show ∀ w4, Below V.drew.heap.size V.drew w4 → w4.cell? ⟨bq, 0, none⟩ = some (.slice A' n' c') from fun w4 h => Boxed.cell (boxed_later hAtV.bq h))
      have HY := hide (show ∀ w4, Below V.drew.heap.size V.drew w4 → w4.cell? ⟨w.heap.size + 2, 0, none⟩ = some (.func (.yield l) #[] #[]) from fun w4 h => Boxed.cell (boxed_later hAtV.by_ h))
      have HCL := hide (show ∀ w5, Below V.drew.heap.size V.drew w5 → Calls Try.prog 88 #[.slice (some ⟨g, 0, none⟩) n' n'] w5 (GivesI w5 pl) from fun w5 h => clone_any (some ⟨g, 0, none⟩) n' n' _ pl w5 (hApl.below h))
      have HYL := hide (show ∀ (w5 w6 : World) (A6 : Option Addr) (c6 : Nat), Below V.heap.size V w5 → Below w5.heap.size w5 w6 → Ints w6 w5.heap.size (.slice A6 pl.length c6) pl → YieldAt Fence.wide 1 Try.prog l #[.slice A6 pl.length c6] w6 fun e V' => ∃ b : Bool, e = .returned (.bool b) ∧
          (b = true → (∀ r, Desk w2.heap.size r V → Desk w2.heap.size r V') ∧ (V.heap.size ≤ V'.heap.size ∧ V'.heap[g]? = V.heap[g]?) ∧ ∃ xs, (J xs V' ∧ xs.map (·.2) = (pre ++ [pl]).filter (fun pl => decide (patA p pl = q))) ∧ AtO A A' n c B n' c' B' p q bp bq (w.heap.size + 2) l V' ∧ AllIn p q xs) ∧
          (b = false → (∀ r, Desk w2.heap.size r V → Desk w2.heap.size r V') ∧ (V.heap.size ≤ V'.heap.size ∧ V'.heap[g]? = V.heap[g]?) ∧ ∃ xs, Jx xs V' ∧ AllIn p q xs) from fun w5 w6 A6 c6 h5 h6 hI => by
        have hin := unhide HIN pl hyes hpl hok
        have hk := (unhide HBD).1
        have hz5 := h5.size
        have hz6 := h6.size
        have hbs := hbU.size
        have hxl : xs.length < N := by
          have h1 := congrArg List.length hxs
          have h2 := List.length_filter_le (fun pl => decide (patA p pl = q)) pre
          rw [List.length_map] at h1
          omega
        have hV6 : Below V.heap.size V w6 := below_after h5 h6
        have hglt := hbuf.lt
        have hkeep : ∀ V', Keep P w6 V' → (∀ r, Desk w2.heap.size r V → Desk w2.heap.size r V') ∧ (V.heap.size ≤ V'.heap.size ∧ V'.heap[g]? = V.heap[g]?) := fun V' h =>
          ⟨fun r hd => h.desk (hd.later hV6) (hk.zone _ (by omega) (by omega)) (hk.zone _ (by omega) (by omega)), Nat.le_trans hV6.size h.size, (h.block g (by omega) (hk.zone _ (by omega) (by omega))).trans (hV6.block g hglt)⟩
        have hall2 : AllIn p q (xs ++ [(.slice A6 pl.length c6, pl)]) := fun x hx => by
          rcases List.mem_append.1 hx with h | h
          · exact hall x h
          · rw [List.mem_singleton.1 h]; exact hin
        refine (round_any rfl (hY xs (.slice A6 pl.length c6, pl) w5 w6 ((unhide HBD).2.1 _ _ _ hJV (But.of_below h5)) (by omega) h6 ⟨hI, hin⟩ hxl)).mono ?_
        rintro e V' (⟨rfl, h1, h2⟩ | ⟨rfl, h1, h2⟩)
        · refine ⟨true, rfl, fun _ => ⟨(hkeep V' h2).1, (hkeep V' h2).2, xs ++ [(.slice A6 pl.length c6, pl)], ⟨h1, by rw [List.map_append, hxs, List.filter_append]; simp [hyes]⟩, ?_, hall2⟩, fun h => (by cases h)⟩
          have h6 := hAtV0.below hV6
          exact ⟨arg_kept h6.p h2.size fun k hkk => h2.block k (by have := h6.p.under; omega) (hk.p k hkk), arg_kept h6.q h2.size fun k hkk => h2.block k (by have := h6.q.under; omega) (hk.q k hkk), h2.boxed h6.bp hk.bp, h2.boxed h6.bq hk.bq, h2.boxed h6.by_ (hk.zone _ (by omega) (by omega))⟩
        · exact ⟨false, rfl, fun h => (by cases h), fun _ => ⟨(hkeep V' h2).1, (hkeep V' h2).2, xs ++ [(.slice A6 pl.length c6, pl)], h1, hall2⟩⟩)
      have HG := hide (⟨hg, hs3⟩ : g = w2.heap.size + 2 ∧ w2.heap.size = w.heap.size + 5)
      clear hseq hAtU hAtV hAtV0 hApl hJU hJV hbuf hxs hall hyes hg hs3 hY hpl
      gi_wp2_with fail
      refine region_round l2 rfl (by kernel_rfl) hmx ?_
      change wpAnyIn _ _ _ _ _ _ _ _ _ (World.drew _)
--REGION-YES
      refine wpAnyIn_take (i := 1) (v := .slice (some ⟨g, 0, none⟩) n' n') rfl rfl (by kernel_rfl) (by kernel_rfl) (by kernel_rfl) (fun _ _ _ h => h) ⟨Or.inl ⟨by rfl, fun w => by go_simp⟩, fun _ => rfl⟩ ?_
      simp only [Act.put]
      refine wpAnyIn_ready (rs := [0, 3]) (by kernel_rfl) (by simp) ?_
      refine AllReadyIn.cons rfl (fun K hK => ?_) (AllReadyIn.cons rfl (fun K hK => ?_) (AllReadyIn.nil))
      · skip
        go_simp
        refine hK _ _ ?_
        clear hK K
        refine wpAnyIn_ready (rs := [2, 3]) (by kernel_rfl) (by simp) ?_
        refine AllReadyIn.cons rfl (fun K hK => ?_) (AllReadyIn.cons rfl (fun K hK => ?_) (AllReadyIn.nil))
        · skip
          go_simp
          refine ⟨trivial, ?_⟩
          refine (callsIn_wide.2 (unhide H1)).mono ?_
          rintro e w4 ⟨A4, c4, rfl, o4, d4⟩
          have hq4 := unhide HQ w4 d4
          have H3 := hide (unhide H2 A4 c4 w4 o4 d4)
          refine hK _ _ ?_
          clear hK K
          refine wpAnyIn_ready (rs := [3]) (by kernel_rfl) (by simp) ?_
          refine AllReadyIn.cons rfl (fun K hK => ?_) (AllReadyIn.nil)
          go_simp
          refine hK _ _ ?_
          clear hK K
          refine wpAnyIn_ready (rs := [4]) (by kernel_rfl) (by simp) ?_
          refine AllReadyIn.cons rfl (fun K hK => ?_) (AllReadyIn.nil)
          go_simp
          refine ⟨trivial, ?_⟩
          refine (callsIn_wide.2 (unhide H3)).mono ?_
          rintro e w5 ⟨rfl, d5⟩
          have hb5 := d4.trans (d5.below _)
          have hy5 := unhide HY w5 hb5
          have H4 := hide (unhide HCL w5 hb5)
          refine hK _ _ ?_
          clear hK K
          refine wpAnyIn_take (i := 5) (v := .bool true) rfl rfl (by kernel_rfl) (by kernel_rfl) (by kernel_rfl) (fun _ _ _ h => h) ⟨Or.inl ⟨by rfl, fun w => by go_simp⟩, fun _ => rfl⟩ ?_
          simp only [Act.put]
          refine wpAnyIn_take (i := 7) (v := .slice (some ⟨g, 0, none⟩) n' n') rfl rfl (by kernel_rfl) (by kernel_rfl) (by kernel_rfl) (fun _ _ _ h => h) ⟨Or.inl ⟨by rfl, fun w => by go_simp⟩, fun _ => rfl⟩ ?_
          simp only [Act.put]
          refine wpAnyIn_ready (rs := [6, 8]) (by kernel_rfl) (by simp) ?_
          refine AllReadyIn.cons rfl (fun K hK => ?_) (AllReadyIn.cons rfl (fun K hK => ?_) (AllReadyIn.nil))
          · skip
            go_simp
            refine hK _ _ ?_
            clear hK K
            refine wpAnyIn_ready (rs := [8]) (by kernel_rfl) (by simp) ?_
            refine AllReadyIn.cons rfl (fun K hK => ?_) (AllReadyIn.nil)
            go_simp
            refine ⟨trivial, ?_⟩
            refine (callsIn_wide.2 (unhide H4)).mono ?_
            rintro e w6 ⟨A6, c6, rfl, o6, d6⟩
            have hy6 := unhide HY w6 (below_after hb5 d6)
            obtain ⟨fn, tmps, assign, body, hy, hR⟩ := unhide HYL w5 w6 A6 c6 ((below_drew V.heap.size V).trans hb5) d6 o6
            refine hK _ _ ?_
            clear hK K
            refine wpAnyIn_ready (rs := [9]) (by kernel_rfl) (by simp) ?_
            refine AllReadyIn.cons rfl (fun K hK => ?_) (AllReadyIn.nil)
            go_simp
            refine hR.mono ?_
            rintro e w7 ⟨b, rfl, ht, hf⟩
            refine hK _ _ ?_
            clear hK K
            refine wpAnyIn_take (i := 10) (v := .bool (!b)) rfl rfl (by kernel_rfl) (by kernel_rfl) (by kernel_rfl) (fun _ _ _ h => h) ⟨Or.inl ⟨by rfl, fun w => by go_simp⟩, fun _ => rfl⟩ ?_
            simp only [Act.put]
            refine wpAnyIn_take (i := 11) (v := .bool (!b)) rfl rfl (by kernel_rfl) (by kernel_rfl) (by kernel_rfl) (fun _ _ _ h => h) ⟨Or.inl ⟨by rfl, fun w => by go_simp⟩, fun _ => rfl⟩ ?_
            simp only [Act.put]
            refine wpAnyIn_done (by kernel_rfl) ?_ _
            cases b with
            | true =>
              have hend := ht rfl
              clear ht hf hR hy
              gi_wp2
              exact hend
            | false =>
              have hend := hf rfl
              clear ht hf hR hy
              gi_wp2
              exact ⟨hend.1, hend.2.1, rfl, hend.2.2⟩
          · skip
            go_simp
            refine ⟨trivial, ?_⟩
            refine (callsIn_wide.2 (unhide H4)).mono ?_
            rintro e w6 ⟨A6, c6, rfl, o6, d6⟩
            have hy6 := unhide HY w6 (below_after hb5 d6)
            obtain ⟨fn, tmps, assign, body, hy, hR⟩ := unhide HYL w5 w6 A6 c6 ((below_drew V.heap.size V).trans hb5) d6 o6
            refine hK _ _ ?_
            clear hK K
            refine wpAnyIn_ready (rs := [6]) (by kernel_rfl) (by simp) ?_
            refine AllReadyIn.cons rfl (fun K hK => ?_) (AllReadyIn.nil)
            go_simp
            refine hK _ _ ?_
            clear hK K
            refine wpAnyIn_ready (rs := [9]) (by kernel_rfl) (by simp) ?_
            refine AllReadyIn.cons rfl (fun K hK => ?_) (AllReadyIn.nil)
            go_simp
            refine hR.mono ?_
            rintro e w7 ⟨b, rfl, ht, hf⟩
            refine hK _ _ ?_
            clear hK K
            refine wpAnyIn_take (i := 10) (v := .bool (!b)) rfl rfl (by kernel_rfl) (by kernel_rfl) (by kernel_rfl) (fun _ _ _ h => h) ⟨Or.inl ⟨by rfl, fun w => by go_simp⟩, fun _ => rfl⟩ ?_
            simp only [Act.put]
            refine wpAnyIn_take (i := 11) (v := .bool (!b)) rfl rfl (by kernel_rfl) (by kernel_rfl) (by kernel_rfl) (fun _ _ _ h => h) ⟨Or.inl ⟨by rfl, fun w => by go_simp⟩, fun _ => rfl⟩ ?_
            simp only [Act.put]
            refine wpAnyIn_done (by kernel_rfl) ?_ _
            cases b with
            | true =>
              have hend := ht rfl
              clear ht hf hR hy
              gi_wp2
              exact hend
            | false =>
              have hend := hf rfl
              clear ht hf hR hy
              gi_wp2
              exact ⟨hend.1, hend.2.1, rfl, hend.2.2⟩
        · skip
          go_simp
          refine hK _ _ ?_
          clear hK K
          refine wpAnyIn_ready (rs := [2]) (by kernel_rfl) (by simp) ?_
          refine AllReadyIn.cons rfl (fun K hK => ?_) (AllReadyIn.nil)
          go_simp
          refine ⟨trivial, ?_⟩
          refine (callsIn_wide.2 (unhide H1)).mono ?_
          rintro e w4 ⟨A4, c4, rfl, o4, d4⟩
          have hq4 := unhide HQ w4 d4
          have H3 := hide (unhide H2 A4 c4 w4 o4 d4)
          refine hK _ _ ?_
          clear hK K
          refine wpAnyIn_ready (rs := [4]) (by kernel_rfl) (by simp) ?_
          refine AllReadyIn.cons rfl (fun K hK => ?_) (AllReadyIn.nil)
          go_simp
          refine ⟨trivial, ?_⟩
          refine (callsIn_wide.2 (unhide H3)).mono ?_
          rintro e w5 ⟨rfl, d5⟩
          have hb5 := d4.trans (d5.below _)
          have hy5 := unhide HY w5 hb5
          have H4 := hide (unhide HCL w5 hb5)
          refine hK _ _ ?_
          clear hK K
          refine wpAnyIn_take (i := 5) (v := .bool true) rfl rfl (by kernel_rfl) (by kernel_rfl) (by kernel_rfl) (fun _ _ _ h => h) ⟨Or.inl ⟨by rfl, fun w => by go_simp⟩, fun _ => rfl⟩ ?_
          simp only [Act.put]
          refine wpAnyIn_take (i := 7) (v := .slice (some ⟨g, 0, none⟩) n' n') rfl rfl (by kernel_rfl) (by kernel_rfl) (by kernel_rfl) (fun _ _ _ h => h) ⟨Or.inl ⟨by rfl, fun w => by go_simp⟩, fun _ => rfl⟩ ?_
          simp only [Act.put]
          refine wpAnyIn_ready (rs := [6, 8]) (by kernel_rfl) (by simp) ?_
          refine AllReadyIn.cons rfl (fun K hK => ?_) (AllReadyIn.cons rfl (fun K hK => ?_) (AllReadyIn.nil))
          · skip
            go_simp
            refine hK _ _ ?_
            clear hK K
            refine wpAnyIn_ready (rs := [8]) (by kernel_rfl) (by simp) ?_
            refine AllReadyIn.cons rfl (fun K hK => ?_) (AllReadyIn.nil)
            go_simp
            refine ⟨trivial, ?_⟩
            refine (callsIn_wide.2 (unhide H4)).mono ?_
            rintro e w6 ⟨A6, c6, rfl, o6, d6⟩
            have hy6 := unhide HY w6 (below_after hb5 d6)
            obtain ⟨fn, tmps, assign, body, hy, hR⟩ := unhide HYL w5 w6 A6 c6 ((below_drew V.heap.size V).trans hb5) d6 o6
            refine hK _ _ ?_
            clear hK K
            refine wpAnyIn_ready (rs := [9]) (by kernel_rfl) (by simp) ?_
            refine AllReadyIn.cons rfl (fun K hK => ?_) (AllReadyIn.nil)
            go_simp
            refine hR.mono ?_
            rintro e w7 ⟨b, rfl, ht, hf⟩
            refine hK _ _ ?_
            clear hK K
            refine wpAnyIn_take (i := 10) (v := .bool (!b)) rfl rfl (by kernel_rfl) (by kernel_rfl) (by kernel_rfl) (fun _ _ _ h => h) ⟨Or.inl ⟨by rfl, fun w => by go_simp⟩, fun _ => rfl⟩ ?_
            simp only [Act.put]
            refine wpAnyIn_take (i := 11) (v := .bool (!b)) rfl rfl (by kernel_rfl) (by kernel_rfl) (by kernel_rfl) (fun _ _ _ h => h) ⟨Or.inl ⟨by rfl, fun w => by go_simp⟩, fun _ => rfl⟩ ?_
            simp only [Act.put]
            refine wpAnyIn_done (by kernel_rfl) ?_ _
            cases b with
            | true =>
              have hend := ht rfl
              clear ht hf hR hy
              gi_wp2
              exact hend
            | false =>
              have hend := hf rfl
              clear ht hf hR hy
              gi_wp2
              exact ⟨hend.1, hend.2.1, rfl, hend.2.2⟩
          · skip
            go_simp
            refine ⟨trivial, ?_⟩
            refine (callsIn_wide.2 (unhide H4)).mono ?_
            rintro e w6 ⟨A6, c6, rfl, o6, d6⟩
            have hy6 := unhide HY w6 (below_after hb5 d6)
            obtain ⟨fn, tmps, assign, body, hy, hR⟩ := unhide HYL w5 w6 A6 c6 ((below_drew V.heap.size V).trans hb5) d6 o6
            refine hK _ _ ?_
            clear hK K
            refine wpAnyIn_ready (rs := [6]) (by kernel_rfl) (by simp) ?_
            refine AllReadyIn.cons rfl (fun K hK => ?_) (AllReadyIn.nil)
            go_simp
            refine hK _ _ ?_
            clear hK K
            refine wpAnyIn_ready (rs := [9]) (by kernel_rfl) (by simp) ?_
            refine AllReadyIn.cons rfl (fun K hK => ?_) (AllReadyIn.nil)
            go_simp
            refine hR.mono ?_
            rintro e w7 ⟨b, rfl, ht, hf⟩
            refine hK _ _ ?_
            clear hK K
            refine wpAnyIn_take (i := 10) (v := .bool (!b)) rfl rfl (by kernel_rfl) (by kernel_rfl) (by kernel_rfl) (fun _ _ _ h => h) ⟨Or.inl ⟨by rfl, fun w => by go_simp⟩, fun _ => rfl⟩ ?_
            simp only [Act.put]
            refine wpAnyIn_take (i := 11) (v := .bool (!b)) rfl rfl (by kernel_rfl) (by kernel_rfl) (by kernel_rfl) (fun _ _ _ h => h) ⟨Or.inl ⟨by rfl, fun w => by go_simp⟩, fun _ => rfl⟩ ?_
            simp only [Act.put]
            refine wpAnyIn_done (by kernel_rfl) ?_ _
            cases b with
            | true =>
              have hend := ht rfl
              clear ht hf hR hy
              gi_wp2
              exact hend
            | false =>
              have hend := hf rfl
              clear ht hf hR hy
              gi_wp2
              exact ⟨hend.1, hend.2.1, rfl, hend.2.2⟩
      · skip
        go_simp
        refine hK _ _ ?_
        clear hK K
        refine wpAnyIn_ready (rs := [0]) (by kernel_rfl) (by simp) ?_
        refine AllReadyIn.cons rfl (fun K hK => ?_) (AllReadyIn.nil)
        go_simp
        refine hK _ _ ?_
        clear hK K
        refine wpAnyIn_ready (rs := [2]) (by kernel_rfl) (by simp) ?_
        refine AllReadyIn.cons rfl (fun K hK => ?_) (AllReadyIn.nil)
        go_simp
        refine ⟨trivial, ?_⟩
        refine (callsIn_wide.2 (unhide H1)).mono ?_
        rintro e w4 ⟨A4, c4, rfl, o4, d4⟩
        have hq4 := unhide HQ w4 d4
        have H3 := hide (unhide H2 A4 c4 w4 o4 d4)
        refine hK _ _ ?_
        clear hK K
        refine wpAnyIn_ready (rs := [4]) (by kernel_rfl) (by simp) ?_
        refine AllReadyIn.cons rfl (fun K hK => ?_) (AllReadyIn.nil)
        go_simp
        refine ⟨trivial, ?_⟩
        refine (callsIn_wide.2 (unhide H3)).mono ?_
        rintro e w5 ⟨rfl, d5⟩
        have hb5 := d4.trans (d5.below _)
        have hy5 := unhide HY w5 hb5
        have H4 := hide (unhide HCL w5 hb5)
        refine hK _ _ ?_
        clear hK K
        refine wpAnyIn_take (i := 5) (v := .bool true) rfl rfl (by kernel_rfl) (by kernel_rfl) (by kernel_rfl) (fun _ _ _ h => h) ⟨Or.inl ⟨by rfl, fun w => by go_simp⟩, fun _ => rfl⟩ ?_
        simp only [Act.put]
        refine wpAnyIn_take (i := 7) (v := .slice (some ⟨g, 0, none⟩) n' n') rfl rfl (by kernel_rfl) (by kernel_rfl) (by kernel_rfl) (fun _ _ _ h => h) ⟨Or.inl ⟨by rfl, fun w => by go_simp⟩, fun _ => rfl⟩ ?_
        simp only [Act.put]
        refine wpAnyIn_ready (rs := [6, 8]) (by kernel_rfl) (by simp) ?_
        refine AllReadyIn.cons rfl (fun K hK => ?_) (AllReadyIn.cons rfl (fun K hK => ?_) (AllReadyIn.nil))
        · skip
          go_simp
          refine hK _ _ ?_
          clear hK K
          refine wpAnyIn_ready (rs := [8]) (by kernel_rfl) (by simp) ?_
          refine AllReadyIn.cons rfl (fun K hK => ?_) (AllReadyIn.nil)
          go_simp
          refine ⟨trivial, ?_⟩
          refine (callsIn_wide.2 (unhide H4)).mono ?_
          rintro e w6 ⟨A6, c6, rfl, o6, d6⟩
          have hy6 := unhide HY w6 (below_after hb5 d6)
          obtain ⟨fn, tmps, assign, body, hy, hR⟩ := unhide HYL w5 w6 A6 c6 ((below_drew V.heap.size V).trans hb5) d6 o6
          refine hK _ _ ?_
          clear hK K
          refine wpAnyIn_ready (rs := [9]) (by kernel_rfl) (by simp) ?_
          refine AllReadyIn.cons rfl (fun K hK => ?_) (AllReadyIn.nil)
          go_simp
          refine hR.mono ?_
          rintro e w7 ⟨b, rfl, ht, hf⟩
          refine hK _ _ ?_
          clear hK K
          refine wpAnyIn_take (i := 10) (v := .bool (!b)) rfl rfl (by kernel_rfl) (by kernel_rfl) (by kernel_rfl) (fun _ _ _ h => h) ⟨Or.inl ⟨by rfl, fun w => by go_simp⟩, fun _ => rfl⟩ ?_
          simp only [Act.put]
          refine wpAnyIn_take (i := 11) (v := .bool (!b)) rfl rfl (by kernel_rfl) (by kernel_rfl) (by kernel_rfl) (fun _ _ _ h => h) ⟨Or.inl ⟨by rfl, fun w => by go_simp⟩, fun _ => rfl⟩ ?_
          simp only [Act.put]
          refine wpAnyIn_done (by kernel_rfl) ?_ _
          cases b with
          | true =>
            have hend := ht rfl
            clear ht hf hR hy
            gi_wp2
            exact hend
          | false =>
            have hend := hf rfl
            clear ht hf hR hy
            gi_wp2
            exact ⟨hend.1, hend.2.1, rfl, hend.2.2⟩
        · skip
          go_simp
          refine ⟨trivial, ?_⟩
          refine (callsIn_wide.2 (unhide H4)).mono ?_
          rintro e w6 ⟨A6, c6, rfl, o6, d6⟩
          have hy6 := unhide HY w6 (below_after hb5 d6)
          obtain ⟨fn, tmps, assign, body, hy, hR⟩ := unhide HYL w5 w6 A6 c6 ((below_drew V.heap.size V).trans hb5) d6 o6
          refine hK _ _ ?_
          clear hK K
          refine wpAnyIn_ready (rs := [6]) (by kernel_rfl) (by simp) ?_
          refine AllReadyIn.cons rfl (fun K hK => ?_) (AllReadyIn.nil)
          go_simp
          refine hK _ _ ?_
          clear hK K
          refine wpAnyIn_ready (rs := [9]) (by kernel_rfl) (by simp) ?_
          refine AllReadyIn.cons rfl (fun K hK => ?_) (AllReadyIn.nil)
          go_simp
          refine hR.mono ?_
          rintro e w7 ⟨b, rfl, ht, hf⟩
          refine hK _ _ ?_
          clear hK K
          refine wpAnyIn_take (i := 10) (v := .bool (!b)) rfl rfl (by kernel_rfl) (by kernel_rfl) (by kernel_rfl) (fun _ _ _ h => h) ⟨Or.inl ⟨by rfl, fun w => by go_simp⟩, fun _ => rfl⟩ ?_
          simp only [Act.put]
          refine wpAnyIn_take (i := 11) (v := .bool (!b)) rfl rfl (by kernel_rfl) (by kernel_rfl) (by kernel_rfl) (fun _ _ _ h => h) ⟨Or.inl ⟨by rfl, fun w => by go_simp⟩, fun _ => rfl⟩ ?_
          simp only [Act.put]
          refine wpAnyIn_done (by kernel_rfl) ?_ _
          cases b with
          | true =>
            have hend := ht rfl
            clear ht hf hR hy
            gi_wp2
            exact hend
          | false =>
            have hend := hf rfl
            clear ht hf hR hy
            gi_wp2
            exact ⟨hend.1, hend.2.1, rfl, hend.2.2⟩
--END-YES
    · have hdec : decide (patA p pl = q) = false := by simpa using hyes
      have H2 := hide (show ∀ (A4 : Option Addr) (c4 : Nat) (w4 : World), Ints w4 V.drew.heap.size (.slice A4 (patA p pl).length c4) (patA p pl) → Below V.drew.heap.size V.drew w4 → Calls Try.prog 68 #[.slice A4 (patA p pl).length c4, .slice A' n' c'] w4 fun e w' => e = .returned (.bool false) ∧ Drew w4 w' from fun A4 c4 w4 h1 h2 =>
        eqsl_any A4 A' _ c4 _ n' c' B' (patA p pl) q false hdec w4 (h1.arg (by unfold patA; rw [patL_length, nums_length]; omega) h1.cap (patA_small hp (e1.symm ▸ hok))) (hAtV.q.below h2))
      have HQ := hide (show ∀ w4, Below V.drew.heap.size V.drew w4 → w4.cell? ⟨bq, 0, none⟩ = some (.slice A' n' c') from fun w4 h => Boxed.cell (boxed_later hAtV.bq h))
      have HEND := hide (show ∀ w5, Below V.heap.size V w5 → (∀ r, Desk w2.heap.size r V → Desk w2.heap.size r w5) ∧ (V.heap.size ≤ w5.heap.size ∧ w5.heap[g]? = V.heap[g]?) ∧ ∃ xs, (J xs w5 ∧ xs.map (·.2) = (pre ++ [pl]).filter (fun pl => decide (patA p pl = q))) ∧ AtO A A' n c B n' c' B' p q bp bq (w.heap.size + 2) l w5 ∧ AllIn p q xs from fun w5 h =>
        ⟨fun r hd => hd.later h, ⟨h.size, h.block g hbuf.lt⟩, ⟨xs, ⟨(unhide HBD).2.1 _ _ _ hJV (But.of_below h), by rw [List.filter_append, hxs]; simp [hyes]⟩, hAtV0.below h, hall⟩⟩)
      have HG := hide (⟨hg, hs3⟩ : g = w2.heap.size + 2 ∧ w2.heap.size = w.heap.size + 5)
      clear hseq hAtU hAtV hAtV0 hApl hJU hJV hbuf hxs hall hyes hg hs3
      gi_wp2_with fail
      refine region_round l2 rfl (by kernel_rfl) hmx ?_
      change wpAnyIn _ _ _ _ _ _ _ _ _ (World.drew _)
--REGION-NO
      refine wpAnyIn_take (i := 1) (v := .slice (some ⟨g, 0, none⟩) n' n') rfl rfl (by kernel_rfl) (by kernel_rfl) (by kernel_rfl) (fun _ _ _ h => h) ⟨Or.inl ⟨by rfl, fun w => by go_simp⟩, fun _ => rfl⟩ ?_
      simp only [Act.put]
      refine wpAnyIn_ready (rs := [0, 3]) (by kernel_rfl) (by simp) ?_
      refine AllReadyIn.cons rfl (fun K hK => ?_) (AllReadyIn.cons rfl (fun K hK => ?_) (AllReadyIn.nil))
      · skip
        go_simp
        refine hK _ _ ?_
        clear hK K
        refine wpAnyIn_ready (rs := [2, 3]) (by kernel_rfl) (by simp) ?_
        refine AllReadyIn.cons rfl (fun K hK => ?_) (AllReadyIn.cons rfl (fun K hK => ?_) (AllReadyIn.nil))
        · skip
          go_simp
          refine ⟨trivial, ?_⟩
          refine (callsIn_wide.2 (unhide H1)).mono ?_
          rintro e w4 ⟨A4, c4, rfl, o4, d4⟩
          have hq4 := unhide HQ w4 d4
          have H3 := hide (unhide H2 A4 c4 w4 o4 d4)
          refine hK _ _ ?_
          clear hK K
          refine wpAnyIn_ready (rs := [3]) (by kernel_rfl) (by simp) ?_
          refine AllReadyIn.cons rfl (fun K hK => ?_) (AllReadyIn.nil)
          go_simp
          refine hK _ _ ?_
          clear hK K
          refine wpAnyIn_ready (rs := [4]) (by kernel_rfl) (by simp) ?_
          refine AllReadyIn.cons rfl (fun K hK => ?_) (AllReadyIn.nil)
          go_simp
          refine ⟨trivial, ?_⟩
          refine (callsIn_wide.2 (unhide H3)).mono ?_
          rintro e w5 ⟨rfl, d5⟩
          refine hK _ _ ?_
          clear hK K
          refine wpAnyIn_take (i := 5) (v := .bool false) rfl rfl (by kernel_rfl) (by kernel_rfl) (by kernel_rfl) (fun _ _ _ h => h) ⟨Or.inl ⟨by rfl, fun w => by go_simp⟩, fun _ => rfl⟩ ?_
          simp only [Act.put]
          refine wpAnyIn_take (i := 6) (v := undef) rfl rfl (by kernel_rfl) (by kernel_rfl) (by kernel_rfl) (fun _ _ _ h => h) ⟨Or.inr ⟨by rfl, rfl⟩, fun _ => rfl⟩ ?_
          simp only [Act.put]
          refine wpAnyIn_take (i := 7) (v := undef) rfl rfl (by kernel_rfl) (by kernel_rfl) (by kernel_rfl) (fun _ _ _ h => h) ⟨Or.inr ⟨by rfl, rfl⟩, fun _ => rfl⟩ ?_
          simp only [Act.put]
          refine wpAnyIn_ready (rs := [8]) (by kernel_rfl) (by simp) ?_
          refine AllReadyIn.cons rfl (fun K hK => ?_) (AllReadyIn.nil)
          go_simp
          refine ⟨trivial, hK _ _ ?_⟩
          clear hK K
          refine wpAnyIn_ready (rs := [9]) (by kernel_rfl) (by simp) ?_
          refine AllReadyIn.cons rfl (fun K hK => ?_) (AllReadyIn.nil)
          go_simp
          first | refine hK _ _ ?_ | refine ⟨fun _ h => (by cases h), hK _ _ ?_⟩
          clear hK K
          refine wpAnyIn_ready (rs := [10]) (by kernel_rfl) (by simp) ?_
          refine AllReadyIn.cons rfl (fun K hK => ?_) (AllReadyIn.nil)
          go_simp
          refine hK _ _ ?_
          clear hK K
          refine wpAnyIn_take (i := 11) (v := .bool false) rfl rfl (by kernel_rfl) (by kernel_rfl) (by kernel_rfl) (fun _ _ _ h => h) ⟨Or.inl ⟨by rfl, fun w => by go_simp⟩, fun _ => rfl⟩ ?_
          simp only [Act.put]
          refine wpAnyIn_done (by kernel_rfl) ?_ _
          have hend := unhide HEND w5 (((below_drew V.heap.size V).trans d4).trans (d5.below _))
          gi_wp2
          exact hend
        · skip
          go_simp
          refine hK _ _ ?_
          clear hK K
          refine wpAnyIn_ready (rs := [2]) (by kernel_rfl) (by simp) ?_
          refine AllReadyIn.cons rfl (fun K hK => ?_) (AllReadyIn.nil)
          go_simp
          refine ⟨trivial, ?_⟩
          refine (callsIn_wide.2 (unhide H1)).mono ?_
          rintro e w4 ⟨A4, c4, rfl, o4, d4⟩
          have hq4 := unhide HQ w4 d4
          have H3 := hide (unhide H2 A4 c4 w4 o4 d4)
          refine hK _ _ ?_
          clear hK K
          refine wpAnyIn_ready (rs := [4]) (by kernel_rfl) (by simp) ?_
          refine AllReadyIn.cons rfl (fun K hK => ?_) (AllReadyIn.nil)
          go_simp
          refine ⟨trivial, ?_⟩
          refine (callsIn_wide.2 (unhide H3)).mono ?_
          rintro e w5 ⟨rfl, d5⟩
          refine hK _ _ ?_
          clear hK K
          refine wpAnyIn_take (i := 5) (v := .bool false) rfl rfl (by kernel_rfl) (by kernel_rfl) (by kernel_rfl) (fun _ _ _ h => h) ⟨Or.inl ⟨by rfl, fun w => by go_simp⟩, fun _ => rfl⟩ ?_
          simp only [Act.put]
          refine wpAnyIn_take (i := 6) (v := undef) rfl rfl (by kernel_rfl) (by kernel_rfl) (by kernel_rfl) (fun _ _ _ h => h) ⟨Or.inr ⟨by rfl, rfl⟩, fun _ => rfl⟩ ?_
          simp only [Act.put]
          refine wpAnyIn_take (i := 7) (v := undef) rfl rfl (by kernel_rfl) (by kernel_rfl) (by kernel_rfl) (fun _ _ _ h => h) ⟨Or.inr ⟨by rfl, rfl⟩, fun _ => rfl⟩ ?_
          simp only [Act.put]
          refine wpAnyIn_ready (rs := [8]) (by kernel_rfl) (by simp) ?_
          refine AllReadyIn.cons rfl (fun K hK => ?_) (AllReadyIn.nil)
          go_simp
          refine ⟨trivial, hK _ _ ?_⟩
          clear hK K
          refine wpAnyIn_ready (rs := [9]) (by kernel_rfl) (by simp) ?_
          refine AllReadyIn.cons rfl (fun K hK => ?_) (AllReadyIn.nil)
          go_simp
          first | refine hK _ _ ?_ | refine ⟨fun _ h => (by cases h), hK _ _ ?_⟩
          clear hK K
          refine wpAnyIn_ready (rs := [10]) (by kernel_rfl) (by simp) ?_
          refine AllReadyIn.cons rfl (fun K hK => ?_) (AllReadyIn.nil)
          go_simp
          refine hK _ _ ?_
          clear hK K
          refine wpAnyIn_take (i := 11) (v := .bool false) rfl rfl (by kernel_rfl) (by kernel_rfl) (by kernel_rfl) (fun _ _ _ h => h) ⟨Or.inl ⟨by rfl, fun w => by go_simp⟩, fun _ => rfl⟩ ?_
          simp only [Act.put]
          refine wpAnyIn_done (by kernel_rfl) ?_ _
          have hend := unhide HEND w5 (((below_drew V.heap.size V).trans d4).trans (d5.below _))
          gi_wp2
          exact hend
      · skip
        go_simp
        refine hK _ _ ?_
        clear hK K
        refine wpAnyIn_ready (rs := [0]) (by kernel_rfl) (by simp) ?_
        refine AllReadyIn.cons rfl (fun K hK => ?_) (AllReadyIn.nil)
        go_simp
        refine hK _ _ ?_
        clear hK K
        refine wpAnyIn_ready (rs := [2]) (by kernel_rfl) (by simp) ?_
        refine AllReadyIn.cons rfl (fun K hK => ?_) (AllReadyIn.nil)
        go_simp
        refine ⟨trivial, ?_⟩
        refine (callsIn_wide.2 (unhide H1)).mono ?_
        rintro e w4 ⟨A4, c4, rfl, o4, d4⟩
        have hq4 := unhide HQ w4 d4
        have H3 := hide (unhide H2 A4 c4 w4 o4 d4)
        refine hK _ _ ?_
        clear hK K
        refine wpAnyIn_ready (rs := [4]) (by kernel_rfl) (by simp) ?_
        refine AllReadyIn.cons rfl (fun K hK => ?_) (AllReadyIn.nil)
        go_simp
        refine ⟨trivial, ?_⟩
        refine (callsIn_wide.2 (unhide H3)).mono ?_
        rintro e w5 ⟨rfl, d5⟩
        refine hK _ _ ?_
        clear hK K
        refine wpAnyIn_take (i := 5) (v := .bool false) rfl rfl (by kernel_rfl) (by kernel_rfl) (by kernel_rfl) (fun _ _ _ h => h) ⟨Or.inl ⟨by rfl, fun w => by go_simp⟩, fun _ => rfl⟩ ?_
        simp only [Act.put]
        refine wpAnyIn_take (i := 6) (v := undef) rfl rfl (by kernel_rfl) (by kernel_rfl) (by kernel_rfl) (fun _ _ _ h => h) ⟨Or.inr ⟨by rfl, rfl⟩, fun _ => rfl⟩ ?_
        simp only [Act.put]
        refine wpAnyIn_take (i := 7) (v := undef) rfl rfl (by kernel_rfl) (by kernel_rfl) (by kernel_rfl) (fun _ _ _ h => h) ⟨Or.inr ⟨by rfl, rfl⟩, fun _ => rfl⟩ ?_
        simp only [Act.put]
        refine wpAnyIn_ready (rs := [8]) (by kernel_rfl) (by simp) ?_
        refine AllReadyIn.cons rfl (fun K hK => ?_) (AllReadyIn.nil)
        go_simp
        refine ⟨trivial, hK _ _ ?_⟩
        clear hK K
        refine wpAnyIn_ready (rs := [9]) (by kernel_rfl) (by simp) ?_
        refine AllReadyIn.cons rfl (fun K hK => ?_) (AllReadyIn.nil)
        go_simp
        first | refine hK _ _ ?_ | refine ⟨fun _ h => (by cases h), hK _ _ ?_⟩
        clear hK K
        refine wpAnyIn_ready (rs := [10]) (by kernel_rfl) (by simp) ?_
        refine AllReadyIn.cons rfl (fun K hK => ?_) (AllReadyIn.nil)
        go_simp
        refine hK _ _ ?_
        clear hK K
        refine wpAnyIn_take (i := 11) (v := .bool false) rfl rfl (by kernel_rfl) (by kernel_rfl) (by kernel_rfl) (fun _ _ _ h => h) ⟨Or.inl ⟨by rfl, fun w => by go_simp⟩, fun _ => rfl⟩ ?_
        simp only [Act.put]
        refine wpAnyIn_done (by kernel_rfl) ?_ _
        have hend := unhide HEND w5 (((below_drew V.heap.size V).trans d4).trans (d5.below _))
        gi_wp2
        exact hend
--END-NO
  case done =>
    rintro pls V rfl ⟨xs, ⟨hJV, hxs⟩, hAtV, hall⟩ hK
    rw [← e1, ← e2, unhide HFI] at hxs
    have hJD := (unhide HBD).2.1 _ _ _ hJV (But.putObj V (k := w2.heap.size) (by omega) (by omega) (.deferred none))
    gi_wp2
    refine ⟨by simp, .inl ⟨_, _, rfl, run_takeDeferred hK, ?_⟩⟩
    refine ⟨_, results_none rfl _ _ _, ?_⟩
    exact ⟨⟨_, rfl⟩, .inl ⟨xs, hxs, hJD⟩⟩
  case stop =>
    rintro c pre V _ ⟨rfl, xs, hJV, hall⟩ hK
    have hJD := (unhide HBD).2.2 _ _ _ hJV (But.putObj V (k := w2.heap.size) (by omega) (by omega) (.deferred none))
    gi_wp2
    refine ⟨by simp, .inl ⟨_, _, rfl, run_takeDeferred hK, ?_⟩⟩
    refine ⟨_, results_none rfl _ _ _, ?_⟩
    exact ⟨⟨_, rfl⟩, .inr ⟨xs, hall, hJD⟩⟩
end Go.Proofs.Ytichenjbkclljaa


/-
  'list = append(list, row)' inside a fence (a round of a range over a function): row was made since world w0.
-/

namespace Go.Proofs.Ytichenjbkclljaa
set_option maxRecDepth 100000
open Go.RowKit

theorem wpListIn_push_row {F : Fence} {nF : Nat} {ops : Array Oper} {rest : List Oper} {o : Oper} {a : Act} {W : World} {Q : Exit → Act → World → Prop} (hgd : o.guard = none) (sl x : Operand)
    (ho : o.op = .call { callee := .builtin .append, args := #[sl, x], argTypes := #[27, 27] })
    (base : Nat) (w0 wr : World) (v u : Value) (zss : List (List Int)) (zs : List Int) (hs : a.eval sl = v) (hx : a.eval x = .slice (some ⟨wr.heap.size, 0, none⟩) 1 1) (hW : W = wr.alloc (.cells #[u] 24))
    (hS : IntsS w0 base v zss) (hb0 : Below w0.heap.size w0 wr) (hu : Ints wr w0.heap.size u zs) (hn : zss.length ≤ 1048576) (hbase : base ≤ w0.heap.size)
    (K : ∀ v' w', IntsS w' base v' (zss ++ [zs]) → Below base wr w' → KeepI wr w' → (v'.ownBlock = v.ownBlock ∨ v'.ownBlock = some W.heap.size) → W.grownBy w' v.ownBlock → wpListIn F nF Try.prog ops Q rest (a.put o.dst v') w') : wpListIn F nF Try.prog ops Q (o :: rest) a W := by
  obtain ⟨i0, hi, hz0, hz1, hz2⟩ := info_parts rowsInfo
  obtain ⟨vs, hown, hin⟩ := hS
  have hown1 := own_below hown hb0
  have hal := (Below.refl wr.heap.size wr).alloc (Nat.le_refl _) (.cells #[u] 24)
  have hown2 := own_below hown1 hal
  obtain ⟨A1, c1, rfl⟩ := hu.slice
  subst hW
  refine wpListIn_append_own_at _ hgd sl x 27 ho base 24 i0 (.slice none 0 0) 1 24 Try.underlying27 hi hz0 hz1 hz2 rfl (by decide) v _ _ hs hown2 ⟨wr.heap.size, 0, none⟩ 1 1 [.slice A1 zs.length c1] hx rfl ?_ ?_ (by unfold maxLen; omega) (by omega) (by simp; have := hb0.size; omega) ?_
  · intro j u hj
    match j, hj with
    | 0, hj => simp at hj; subst hj; simp [Addr.add]
  · intro y hy
    obtain rfl := List.mem_singleton.1 hy
    rfl
  · intro v' w' h1 h2 _ h4
    have hk := (KeepI.of_below hal).trans (KeepI.of_grown hown2 h2)
    refine K v' w' ⟨vs ++ [.slice A1 zs.length c1], by rw [List.length_append]; exact h1, ?_⟩ ?_ hk h4 h2
    · exact ((hin.keepI (KeepI.of_below hb0)).keepI hk).push ((hu.low hbase).keepI hk) (hin.away_new hu.since (Nat.le_refl _))
    · exact ((Below.refl base wr).alloc (Nat.le_trans hbase hb0.size) _).grown h2 (by simp; have := hb0.size; omega) (fun k hk => (hown.lt k hk).1)
end Go.Proofs.Ytichenjbkclljaa


/-
  slices.AppendSeq, slices.Collect over the iterator of impl.occurrences; impl.OccurrencesOf, impl.CountPattern.
-/

namespace Go.Proofs.Ytichenjbkclljaa
set_option maxRecDepth 100000
open Go.RowKit Go.Shelf
attribute [local go_sem] Oper.semAt_some

theorem chR_room_all : ∀ n, n < 9 → ∀ k, k < 9 → (chR n k).length ≤ 256 := by decide +kernel
theorem chR_room {n k : Nat} (hn : n ≤ 8) (hk : k ≤ 8) : (chR n k).length ≤ 256 := chR_room_all n (by omega) k (by omega)
theorem intsS_stored {W : World} {D b : Nat} {v : Value} {zss : List (List Int)} (h : IntsS W D v zss) (hb : b < D) (x : Value) : IntsS (W.setCell ⟨b, 0, none⟩ x) D v zss := h.but (But.setCell W (Nat.le_refl b) (Nat.lt_succ_self b) x) hb
set_option maxRecDepth 100000 in
set_option maxHeartbeats 4000000 in
theorem aseq_any (A A' : Option Addr) (n c B n' c' B' : Nat) (p q : List Int) (hp : isP p = true) (hq : isP q = true) (bp bq : Nat) (w : World) (hpA : Arg w B A n c p) (hqA : Arg w B' A' n' c' q)
    (hbp : Boxed w bp 24 (.slice A n c)) (hbq : Boxed w bq 24 (.slice A' n' c')) :
    Calls Try.prog 86 #[.slice none 0 0, .func (.func 87) #[] #[.pointer (some ⟨bp, 0, none⟩), .pointer (some ⟨bq, 0, none⟩)]] w (GivesSS w (occR p q)) := by
  have hn8 : n ≤ 8 := by have := isP_le hp; have := hpA.len; omega
  have hn8' : n' ≤ 8 := by have := isP_le hq; have := hqA.len; omega
  have hbpl := Boxed.lt hbp
  have hbql := Boxed.lt hbq
  have hBu := hpA.under
  have hBu' := hqA.under
  obtain ⟨w1, hw1⟩ : ∃ w1, w1 = w.alloc (.cells #[.slice none 0 0] 27) := ⟨_, rfl⟩
  have hs1 : w1.heap.size = w.heap.size + 1 := by rw [hw1]; simp
  have hb1 : Below w.heap.size w w1 := by rw [hw1]; exact (Below.refl _ w).alloc (Nat.le_refl _) _
  have hc1 : Boxed w1 w.heap.size 27 (.slice none 0 0) := by rw [hw1]; exact Boxed.new w _ _
  have hseq := occ_tell A A' n c B n' c' B' p q hp hq (fun k => k < w.heap.size ∨ (w.heap.size + 3 ≤ k ∧ k < w.heap.size + 9)) bp bq 256 w1 (hpA.below hb1) (hqA.below hb1) (boxed_later hbp hb1) (boxed_later hbq hb1)
    ⟨fun k hk => .inl (by omega), fun k hk => .inl (by omega), .inl hbpl, .inl hbql, fun k h1 h2 => .inr (by omega)⟩ 3 (chR_room hn8 hn8')
  have HW1 := hide hw1
  refine (callsIn_wide (n := 4)).1 ?_
  refine callsIn_of_wp_marks Try.func86 rfl trivial ?_ rfl
  simp only [Try.ntmps86, List.size_toArray, List.length_cons, List.length_nil, Nat.reduceAdd, Nat.reduceSub, Array.replicate_succ, Array.replicate_zero, List.push_toArray, List.append_toArray, List.nil_append, List.cons_append]
  clear hw1 hpA hqA hbp hbq
  gi_wp2
  rw [← unhide HW1]
  clear HW1
  obtain ⟨b, hb⟩ : ∃ b, b = w.heap.size := ⟨_, rfl⟩
  rw [← hb] at hs1 hseq hc1 ⊢
  refine range_zone rfl (by decide) (gf := 87) (lb := #[.pointer (some ⟨bp, 0, none⟩), .pointer (some ⟨bq, 0, none⟩)]) rfl trivial (enters_of Try.func87 (by kernel_rfl) rfl)
    hseq (fun h k => h.trans k) (fun W r r' hd => Keep.putObj W (by omega) _) (fun _ => rfl) (fun U V x r r' hdU hdV h => ⟨kn_row _ U V x r r' hdU hdV h.1, h.2⟩)
    (fun pre V => (∃ v, Boxed V b 27 v ∧ IntsS V (b + 9) v (pre.map (·.2))) ∧ Below b w V ∧ b ≤ V.heap.size)
    (fun _ _ _ => False)
    (fun pre U V h hb' => by
      obtain ⟨⟨v, h1, h2⟩, h3, h4⟩ := h
      exact ⟨⟨v, Boxed.but h1 hb' (by omega), h2.but hb' (by omega)⟩, h3.trans (hb'.below (by omega) h4), Nat.le_trans h4 hb'.size⟩)
    (fun _ _ _ _ h _ => h)
    ⟨⟨_, hc1, IntsS.nil _ _⟩, hb ▸ hb1, by omega⟩
    (fun x => { tmps := #[.slice none 0 0, .func (.func 87) #[] #[.pointer (some ⟨bp, 0, none⟩), .pointer (some ⟨bq, 0, none⟩)], .pointer (some ⟨b, 0, none⟩), undef, .slice none 0 0, x.1,
      .func (.func 87) #[] #[.pointer (some ⟨bp, 0, none⟩), .pointer (some ⟨bq, 0, none⟩)], x.1, undef, undef, undef, undef, undef], defers := [] }) ?assign ?body ?done ?stop
  case assign =>
    intro l x W K hK
    clear hb
    gi_wp2
    exact hK
  case body =>
    rintro l pre ⟨u, zs⟩ U W ⟨⟨v, hcU, hSU⟩, hBU, hbsU⟩ hzU hbU ⟨hkn, _⟩ hlen
    dsimp only at hkn ⊢
    obtain ⟨Ax, cx, rfl⟩ := hkn.slice
    obtain ⟨zss, hz⟩ : ∃ zss, zss = pre.map (·.2) := ⟨_, rfl⟩
    have hzl : zss.length < 256 := by rw [hz, List.length_map]; exact hlen
    rw [← hz] at hSU
    obtain ⟨Av, cv, rfl⟩ := hSU.slice
    have HZ := hide hz
    clear hz
    have hc : Boxed W b 27 (.slice Av zss.length cv) := boxed_later hcU hbU
    have hcell := hc.cell
    have hfz := hc.frozen
    have hzU' : b + 9 ≤ U.heap.size := by omega
    have hbs := hbU.size
    have HEND := hide (show ∀ (A9 : Option Addr) (c9 : Nat) (w' : World), IntsS w' (b + 9) (.slice A9 (zss.length + 1) c9) (zss ++ [zs]) → Below (b + 9) W w' → (∀ r, Desk w1.heap.size r W → Desk w1.heap.size r (w'.setCell ⟨b, 0, none⟩ (.slice A9 (zss.length + 1) c9))) ∧ Keep (fun k => k < b ∨ (b + 3 ≤ k ∧ k < b + 9)) W (w'.setCell ⟨b, 0, none⟩ (.slice A9 (zss.length + 1) c9)) ∧
        ((∃ v, Boxed (w'.setCell ⟨b, 0, none⟩ (.slice A9 (zss.length + 1) c9)) b 27 v ∧ IntsS (w'.setCell ⟨b, 0, none⟩ (.slice A9 (zss.length + 1) c9)) (b + 9) v ((pre ++ [((.slice Ax zs.length cx : Value), zs)]).map (·.2))) ∧ Below b w (w'.setCell ⟨b, 0, none⟩ (.slice A9 (zss.length + 1) c9)) ∧ b ≤ (w'.setCell ⟨b, 0, none⟩ (.slice A9 (zss.length + 1) c9)).heap.size) from fun A9 c9 w' h1 h2 => by
      have hg := grownBy_setCell' w' b (.slice A9 (zss.length + 1) c9)
      have hsz := h2.size
      have hsz2 := hg.size
      have hblk : ∀ k, k < W.heap.size → k < b + 9 → k ≠ b → (w'.setCell ⟨b, 0, none⟩ (.slice A9 (zss.length + 1) c9)).heap[k]? = W.heap[k]? := fun k h3 h4 h5 => (hg.block k (by omega) (by simp; omega)).trans (h2.block k h4)
      refine ⟨fun r hd => ⟨(hblk _ hd.lt (by omega) (by omega)).trans hd.rec_, (hblk _ (by have := hd.lt; omega) (by omega) (by omega)).trans hd.marks⟩, ⟨by omega, fun k h3 h4 => hblk k h3 (by omega) (by omega)⟩, ⟨_, Boxed.set _ ((h2.block b (by omega)).trans hc), ?_⟩, ?_, by omega⟩
      · rw [List.map_append, ← unhide HZ]
        exact intsS_stored h1 (by omega) _
      · exact ((hBU.trans (hbU.mono (by omega))).trans (h2.mono (by omega))).setCell (p := ⟨b, 0, none⟩) (Nat.le_refl _) _)
    clear hlen hs1 hb hc hcU hBU
    gi_wp2_with (first
      | (gi_at_builtin; refine wpListIn_push_row rfl (.tmp 8) (.tmp 10) rfl (b + 9) U W _ (.slice Ax zs.length cx) zss zs rfl rfl rfl hSU hbU hkn (by omega) hzU' ?_; intro v' w' hS' hb' hk' ho' hg'; obtain ⟨A9, c9, rfl⟩ := hS'.slice; rw [List.length_append, List.length_singleton] at hS'; have hcell' := (hb'.cell (p := ⟨b, 0, none⟩) (show b < b + 9 by omega)).trans hcell; have hfz' := (hb'.frozen (p := ⟨b, 0, none⟩) (show b < b + 9 by omega)).trans hfz; have hend := unhide HEND A9 c9 w' hS' hb'))
    exact hend
  case done =>
    rintro ys W hS ⟨⟨v, hc, hSS⟩, hB, hbs⟩ hK
    have hcell := hc.cell
    rw [hS] at hSS
    obtain ⟨A9, c9, rfl⟩ := hSS.slice
    have hSP := (hSS.but (But.putObj W (Nat.le_refl w1.heap.size) (Nat.lt_succ_self _) (.deferred none)) (by omega)).low (show b ≤ b + 9 by omega)
    have hBP : Below b w (W.putObj w1.heap.size (.deferred none)) := hB.trans ((Below.refl _ W).grown (grownBy_putObj' W _ _) (by omega) (fun k e => by cases e; omega))
    have HB := hide hb
    clear hb hc hSS
    gi_wp2
    refine ⟨by simp, .inl ⟨_, _, rfl, run_takeDeferred hK, ?_⟩⟩
    refine ⟨_, results_tmp rfl _ _ _, ?_⟩
    rw [unhide HB] at hSP hBP
    exact GivesSS.mk hSP hBP
  case stop =>
    rintro c pre W _ h _
    exact h.elim
set_option maxHeartbeats 400000 in
theorem collect_any (A A' : Option Addr) (n c B n' c' B' : Nat) (p q : List Int) (hp : isP p = true) (hq : isP q = true) (bp bq : Nat) (w : World) (hpA : Arg w B A n c p) (hqA : Arg w B' A' n' c' q)
    (hbp : Boxed w bp 24 (.slice A n c)) (hbq : Boxed w bq 24 (.slice A' n' c')) :
    Calls Try.prog 49 #[.func (.func 87) #[] #[.pointer (some ⟨bp, 0, none⟩), .pointer (some ⟨bq, 0, none⟩)]] w (GivesSS w (occR p q)) := by
  have H1 := hide (aseq_any A A' n c B n' c' B' p q hp hq bp bq w hpA hqA hbp hbq)
  clear hpA hqA hbp hbq
  go_enter Try.func49, Try.ntmps49
  go_wp2_with fail
  refine (unhide H1).mono ?_
  rintro e w1 ⟨A1, c1, rfl, o1, d1⟩
  clear H1
  go_wp2
  go_ret
  exact GivesSS.mk o1 d1
set_option maxHeartbeats 800000 in
theorem ioccs_any (A A' : Option Addr) (n c B n' c' B' : Nat) (p q : List Int) (w : World) (h : Arg w B A n c p) (h' : Arg w B' A' n' c' q) :
    Calls Try.prog 13 #[.slice A n c, .slice A' n' c'] w (GivesSS w (occR p q)) := by
  obtain ⟨bp, hp⟩ : ∃ b, isP p = b := ⟨_, rfl⟩
  obtain ⟨bq, hq⟩ : ∃ b, isP q = b := ⟨_, rfl⟩
  have H1 := hide (iisperm_any A n c B p bp hp w h.reads h.under h.le h.small)
  cases bp with
  | false =>
    rw [occR_no (.inl hp)]
    clear h h' hp hq
    go_enter Try.func13, Try.ntmps13
    go_wp2_with fail
    refine (unhide H1).mono ?_
    rintro e w1 ⟨rfl, d1⟩
    clear H1
    go_wp2
    go_ret
    exact GivesSS.mk (IntsS.nil _ _) d1
  | true =>
    have H2 := hide (show ∀ w1, Below w.heap.size w w1 → _ from fun w1 d1 => iisperm_any A' n' c' B' q bq hq w1 (h'.below d1).reads (h'.below d1).under h'.le h'.small)
    cases bq with
    | false =>
      rw [occR_no (.inr hq)]
      clear h h' hp hq
      go_enter Try.func13, Try.ntmps13
      go_wp2_with fail
      refine (unhide H1).mono ?_
      rintro e w1 ⟨rfl, d1⟩
      have H3 := hide (unhide H2 w1 d1)
      clear H1 H2
      go_wp2_with fail
      refine (unhide H3).mono ?_
      rintro e w2 ⟨rfl, d2⟩
      have d := below_after d1 d2
      clear H3 d1 d2
      go_wp2
      go_ret
      exact GivesSS.mk (IntsS.nil _ _) d
    | true =>
      have H4 := hide (show ∀ w2, Below w.heap.size w w2 → _ from fun w2 d2 => iocs_made A A' n c n' c' w2)
      have H5 := hide (show ∀ w2, Below w.heap.size w w2 → _ from fun w2 d2 => by
        have d3 : Below w2.heap.size w2 ((w2.alloc (.cells #[.slice A n c] 24)).alloc (.cells #[.slice A' n' c'] 24)) := ((Below.refl _ w2).alloc (Nat.le_refl _) _).alloc (by simp) _
        have b2 := Boxed.new (w2.alloc (.cells #[.slice A n c] 24)) 24 (.slice A' n' c')
        rw [World.size_alloc] at b2
        exact collect_any A A' n c B n' c' B' p q hp hq w2.heap.size (w2.heap.size + 1) _ (h.below (below_after d2 d3)) (h'.below (below_after d2 d3)) (Boxed.alloc (Boxed.new w2 _ _) _) b2)
      clear h h' hp hq
      go_enter Try.func13, Try.ntmps13
      go_wp2_with fail
      refine (unhide H1).mono ?_
      rintro e w1 ⟨rfl, d1⟩
      have H3 := hide (unhide H2 w1 d1)
      clear H1 H2
      go_wp2_with fail
      refine (unhide H3).mono ?_
      rintro e w2 ⟨rfl, d2⟩
      have d := below_after d1 d2
      have H6 := hide (unhide H5 w2 d)
      have H7 := hide (unhide H4 w2 d)
      clear H3 H4 H5 d1 d2
      go_wp2_with fail
      refine (unhide H7).mono ?_
      rintro e w3 ⟨rfl, rfl⟩
      clear H7
      go_wp2_with fail
      refine (unhide H6).mono ?_
      rintro e w4 ⟨A4, c4, rfl, o4, d4⟩
      have d3 : Below w2.heap.size w2 ((w2.alloc (.cells #[.slice A n c] 24)).alloc (.cells #[.slice A' n' c'] 24)) := ((Below.refl _ w2).alloc (Nat.le_refl _) _).alloc (by simp) _
      have d5 := below_after d d3
      have o5 := o4.low d5.size
      have d6 := below_after d5 d4
      clear H6 o4 d4 d3 d5 d
      go_wp2
      go_ret
      exact GivesSS.mk o5 d6
set_option maxHeartbeats 800000 in
theorem icntp_any (A A' : Option Addr) (n c B n' c' B' : Nat) (p q : List Int) (w : World) (h : Arg w B A n c p) (h' : Arg w B' A' n' c' q) :
    Calls Try.prog 26 #[.slice A n c, .slice A' n' c'] w (GivesN w (numOcc p q)) := by
  obtain ⟨bp, hp⟩ : ∃ b, isP p = b := ⟨_, rfl⟩
  obtain ⟨bq, hq⟩ : ∃ b, isP q = b := ⟨_, rfl⟩
  have H1 := hide (iisperm_any A n c B p bp hp w h.reads h.under h.le h.small)
  cases bp with
  | false =>
    rw [show numOcc p q = -1 from by unfold numOcc; rw [hp]; rfl]
    clear h h' hp hq
    go_enter Try.func26, Try.ntmps26
    go_wp2_with fail
    refine (unhide H1).mono ?_
    rintro e w1 ⟨rfl, d1⟩
    clear H1
    go_wp2
    go_ret
    exact ⟨rfl, d1⟩
  | true =>
    have H2 := hide (show ∀ w1, Below w.heap.size w w1 → _ from fun w1 d1 => iisperm_any A' n' c' B' q bq hq w1 (h'.below d1).reads (h'.below d1).under h'.le h'.small)
    cases bq with
    | false =>
      rw [show numOcc p q = -1 from by unfold numOcc; rw [hp, hq]; rfl]
      clear h h' hp hq
      go_enter Try.func26, Try.ntmps26
      go_wp2_with fail
      refine (unhide H1).mono ?_
      rintro e w1 ⟨rfl, d1⟩
      have H3 := hide (unhide H2 w1 d1)
      clear H1 H2
      go_wp2_with fail
      refine (unhide H3).mono ?_
      rintro e w2 ⟨rfl, d2⟩
      have d := below_after d1 d2
      clear H3 d1 d2
      go_wp2
      go_ret
      exact ⟨rfl, d⟩
    | true =>
      have H5 := hide (show ∀ w2, Below w.heap.size w w2 → _ from fun w2 d2 => ioccs_any A A' n c B n' c' B' p q w2 (h.below d2) (h'.below d2))
      rw [show numOcc p q = ((occR p q).length : Int) from by unfold numOcc; rw [hp, hq]; rfl]
      clear h h' hp hq
      go_enter Try.func26, Try.ntmps26
      go_wp2_with fail
      refine (unhide H1).mono ?_
      rintro e w1 ⟨rfl, d1⟩
      have H3 := hide (unhide H2 w1 d1)
      clear H1 H2
      go_wp2_with fail
      refine (unhide H3).mono ?_
      rintro e w2 ⟨rfl, d2⟩
      have d := below_after d1 d2
      have H6 := hide (unhide H5 w2 d)
      clear H3 H5 d1 d2
      go_wp2_with fail
      refine (unhide H6).mono ?_
      rintro e w4 ⟨A4, c4, rfl, o4, d4⟩
      have d6 := below_after d d4
      clear H6 o4 d4 d
      go_wp2
      go_ret
      exact ⟨rfl, d6⟩
end Go.Proofs.Ytichenjbkclljaa


/-
  impl.HasPattern: a loop over the occurrences that ends at the first one.
-/

namespace Go.Proofs.Ytichenjbkclljaa
set_option maxRecDepth 100000
open Go.RowKit Go.Shelf
attribute [local go_sem] Oper.semAt_some

set_option maxRecDepth 100000 in
set_option maxHeartbeats 4000000 in
theorem has_yes (A A' : Option Addr) (n c B n' c' B' : Nat) (p q : List Int) (w : World) (h : Arg w B A n c p) (h' : Arg w B' A' n' c' q) (hp : isP p = true) (hq : isP q = true) :
    Calls Try.prog 28 #[.slice A n c, .slice A' n' c'] w (GivesB w (decide (0 < (occR p q).length))) := by
  have hn8 : n ≤ 8 := by have := isP_le hp; have := h.len; omega
  have hn8' : n' ≤ 8 := by have := isP_le hq; have := h'.len; omega
  have hBu := h.under
  have hBu' := h'.under
  -- the world behind the result's cell
  have hb0 : Below w.heap.size w (w.alloc (.cells #[.bool false] 4)) := (Below.refl _ w).alloc (Nat.le_refl _) _
  have hc0 : Boxed (w.alloc (.cells #[.bool false] 4)) w.heap.size 4 (.bool false) := Boxed.new w _ _
  have H1 := hide (iisperm_any A n c B p true hp _ (h.below hb0).reads (h.below hb0).under h.le h.small)
  have H2 := hide (show ∀ w1, Below w.heap.size w w1 → _ from fun w1 d1 => iisperm_any A' n' c' B' q true hq w1 (h'.below d1).reads (h'.below d1).under h'.le h'.small)
  have H4 := hide (fun w2 => iocs_made A A' n c n' c' w2)
  obtain ⟨b, hb⟩ : ∃ b, b = w.heap.size := ⟨_, rfl⟩
  have HT := hide (show ∀ w2, Below w.heap.size w w2 → b < w2.heap.size → TellsZ Fence.wide 3 Try.prog 87 #[.pointer (some ⟨w2.heap.size, 0, none⟩), .pointer (some ⟨w2.heap.size + 1, 0, none⟩)] 6 (fun x : Value × List Int => #[x.1]) (KnO p q)
      (Keep (fun k => k < w2.heap.size + 10 ∧ k ≠ b ∧ k ≠ w2.heap.size + 2 ∧ k ≠ w2.heap.size + 3)) (fun xs => xs.map (·.2) = occR p q) (AllIn p q) 256 ((w2.alloc (.cells #[.slice A n c] 24)).alloc (.cells #[.slice A' n' c'] 24)) from fun w2 d2 hlt => by
    have d3 : Below w2.heap.size w2 ((w2.alloc (.cells #[.slice A n c] 24)).alloc (.cells #[.slice A' n' c'] 24)) := ((Below.refl _ w2).alloc (Nat.le_refl _) _).alloc (by simp) _
    have b2 := Boxed.new (w2.alloc (.cells #[.slice A n c] 24)) 24 (.slice A' n' c')
    rw [World.size_alloc] at b2
    have hw := d2.size
    exact occ_tell A A' n c B n' c' B' p q hp hq _ w2.heap.size (w2.heap.size + 1) 256 _ (h.below (below_after d2 d3)) (h'.below (below_after d2 d3)) (Boxed.alloc (Boxed.new w2 _ _) _) b2
      ⟨fun k hk => by omega, fun k hk => by omega, by omega, by omega, fun k h1 h2 => by simp at h1 h2; omega⟩ 3 (chR_room hn8 hn8'))
  refine (callsIn_wide (n := 4)).1 ?_
  refine callsIn_of_wp_marks Try.func28 rfl trivial ?_ rfl
  simp only [Try.ntmps28, List.size_toArray, List.length_cons, List.length_nil, Nat.reduceAdd, Nat.reduceSub, Array.replicate_succ, Array.replicate_zero, List.push_toArray, List.append_toArray, List.nil_append, List.cons_append]
  clear h h' hp hq hBu hBu'
  have HB := hide hb
  clear hb
  gi_wp2_with fail
  refine ⟨trivial, ?_⟩
  refine (callsIn_wide.2 (unhide H1)).mono ?_
  rintro e w1 ⟨rfl, d1⟩
  have d1' := below_after hb0 d1
  have H3 := hide (unhide H2 w1 d1')
  clear H1 H2
  gi_wp2_with fail
  refine ⟨trivial, ?_⟩
  refine (callsIn_wide.2 (unhide H3)).mono ?_
  rintro e w2 ⟨rfl, d2⟩
  have d := below_after d1' d2
  have hc2 : Boxed w2 b 4 (.bool false) := by rw [unhide HB]; exact boxed_later (boxed_later hc0 d1) d2
  clear H3 d1 d2 d1' hc0 hb0
  gi_wp2_with fail
  refine ⟨trivial, ?_⟩
  refine (callsIn_wide.2 (unhide H4 _)).mono ?_
  rintro e w3 ⟨rfl, hw3⟩
  have hblt := hc2.lt
  have hseq := unhide HT w2 d hblt
  have hs3 : w3.heap.size = w2.heap.size + 2 := by rw [hw3]; simp
  have hc3 : Boxed w3 b 4 (.bool false) := by rw [hw3]; exact Boxed.alloc (Boxed.alloc hc2 _) _
  have d3 : Below w.heap.size w w3 := below_after d (by rw [hw3]; exact ((Below.refl _ w2).alloc (Nat.le_refl _) _).alloc (by simp) _)
  have hbw : w.heap.size ≤ b := Nat.le_of_eq (unhide HB).symm
  rw [← hw3] at hseq
  rw [← unhide HB]
  clear H4 HT hw3 hc2
  gi_wp2
  refine range_zone rfl (by decide) (gf := 87) (lb := #[.pointer (some ⟨w2.heap.size, 0, none⟩), .pointer (some ⟨w2.heap.size + 1, 0, none⟩)]) rfl trivial (enters_of Try.func87 (by kernel_rfl) rfl)
    hseq (fun h k => h.trans k) (fun W r r' hd => Keep.putObj W (by omega) _) (fun _ => rfl) (fun U V x r r' hdU hdV h => ⟨kn_row _ U V x r r' hdU hdV h.1, h.2⟩)
    (fun pre V => pre = [] ∧ Boxed V b 4 (.bool false) ∧ Below w.heap.size w V ∧ w3.heap.size ≤ V.heap.size)
    (fun c pre V => c = .ret ∧ 0 < (occR p q).length ∧ Boxed V b 4 (.bool true) ∧ Below w.heap.size w V ∧ w3.heap.size ≤ V.heap.size)
    (fun pre U V h hb' => ⟨h.1, Boxed.but h.2.1 hb' (by omega), h.2.2.1.trans (hb'.below (by have := d3.size; omega) (by have := d3.size; have := h.2.2.2; omega)), Nat.le_trans h.2.2.2 hb'.size⟩)
    (fun c pre U V h hb' => ⟨h.1, h.2.1, Boxed.but h.2.2.1 hb' (by omega), h.2.2.2.1.trans (hb'.below (by have := d3.size; omega) (by have := d3.size; have := h.2.2.2.2; omega)), Nat.le_trans h.2.2.2.2 hb'.size⟩)
    ⟨rfl, hc3, d3, Nat.le_refl _⟩
    (fun x => { tmps := #[.slice A n c, .slice A' n' c', undef, undef, .pointer (some ⟨b, 0, none⟩), .slice A n c, .bool true, .bool false, .bool false, .slice A' n' c', .bool true, .bool false, .bool false, .slice A n c, .slice A' n' c',
      .func (.func 87) #[] #[.pointer (some ⟨w2.heap.size, 0, none⟩), .pointer (some ⟨w2.heap.size + 1, 0, none⟩)], x.1], defers := [] }) ?assign ?body ?done ?stop
  case assign =>
    intro l x W K hK
    gi_wp2
    simp only [← Array.foldl_toList, Array.toList_zip, List.zip_cons_cons, List.zip_nil_left, List.foldl_cons, List.foldl_nil]
    exact hK
  case body =>
    rintro l pre ⟨u, zs⟩ U W ⟨rfl, hcU, hBU, hsU⟩ hzU hbU ⟨_, hin⟩ hlen
    have hc := boxed_later hcU hbU
    have hcell := hc.cell
    have hfz := hc.frozen
    have hg := grownBy_setCell' W b (.bool true)
    have hlen0 : 0 < (occR p q).length := List.length_pos_of_mem hin
    have hend : (∀ r, Desk w3.heap.size r W → Desk w3.heap.size r (W.setCell ⟨b, 0, none⟩ (.bool true))) ∧ Keep (fun k => k < w2.heap.size + 10 ∧ k ≠ b ∧ k ≠ w2.heap.size + 2 ∧ k ≠ w2.heap.size + 3) W (W.setCell ⟨b, 0, none⟩ (.bool true)) ∧ Code.ret = .ret ∧ 0 < (occR p q).length ∧ Boxed (W.setCell ⟨b, 0, none⟩ (.bool true)) b 4 (.bool true) ∧ Below w.heap.size w (W.setCell ⟨b, 0, none⟩ (.bool true)) ∧ w3.heap.size ≤ (W.setCell ⟨b, 0, none⟩ (.bool true)).heap.size :=
      ⟨fun r hd => ⟨(hg.block _ hd.lt (by simp; omega)).trans hd.rec_, (hg.block _ (by have := hd.lt; omega) (by simp; omega)).trans hd.marks⟩, Keep.setCell W (by omega) _, rfl, hlen0, Boxed.set _ hc, (hBU.trans (hbU.mono (by omega))).setCell (p := ⟨b, 0, none⟩) hbw _, by have := hg.size; have := hbU.size; omega⟩
    have HEND := hide hend
    clear hc hcU hBU hin hlen hlen0 hg hend hs3
    gi_wp2
    have H := unhide HEND
    exact ⟨H.1, H.2.1, rfl, H.2.2.2⟩
  case done =>
    rintro ys W hS ⟨rfl, hc, hB, hs⟩ hK
    have h0 : decide (0 < (occR p q).length) = false := by rw [← hS]; rfl
    have hcell := hc.cell
    have hfz := hc.frozen
    have hB2 : Below w.heap.size w ((W.setCell ⟨b, 0, none⟩ (.bool false)).putObj w3.heap.size (.deferred none)) := (hB.setCell (p := ⟨b, 0, none⟩) hbw _).trans ((Below.refl _ _).grown (grownBy_putObj' _ _ _) (by have := d3.size; have := (grownBy_setCell' W b (.bool false)).size; omega) (fun k e => by cases e; exact d3.size))
    have H0 := hide h0
    clear d3 h0 hs3
    gi_wp2
    have hK' := (KeepsOthers.setCell W ⟨b, 0, none⟩ (.bool false)).same w3.heap.size _ hK rfl
    refine ⟨by simp, .inl ⟨_, _, rfl, run_takeDeferred hK', ?_⟩⟩
    have hc5 := cell_kept (World.cell?_setCell_same' W ⟨b, 0, none⟩ (.bool false) (by rw [hcell]; rfl)) (grownBy_putObj' _ w3.heap.size (.deferred none)) (fun r e => by cases e; exact ⟨_, hK', rfl⟩)
    refine ⟨.bool false, ?_, by rw [unhide H0], hB2⟩
    simp [results, Try.f28, go_sem, hc5]
  case stop =>
    rintro c pre W _ ⟨rfl, hl0, hc, hB, hs⟩ hK
    have h0 : decide (0 < (occR p q).length) = true := decide_eq_true hl0
    have hcell := hc.cell
    have hB2 : Below w.heap.size w (W.putObj w3.heap.size (.deferred none)) := hB.trans ((Below.refl _ _).grown (grownBy_putObj' _ _ _) (by have := d3.size; omega) (fun k e => by cases e; exact d3.size))
    have H0 := hide h0
    clear d3 h0 hs3
    gi_wp2
    refine ⟨by simp, .inl ⟨_, _, rfl, run_takeDeferred hK, ?_⟩⟩
    have hc5 := cell_kept hcell (grownBy_putObj' _ w3.heap.size (.deferred none)) (fun r e => by cases e; exact ⟨_, hK, rfl⟩)
    refine ⟨.bool true, ?_, by rw [unhide H0], hB2⟩
    simp [results, Try.f28, go_sem, hc5]
set_option maxHeartbeats 800000 in
theorem ihas_any (A A' : Option Addr) (n c B n' c' B' : Nat) (p q : List Int) (w : World) (h : Arg w B A n c p) (h' : Arg w B' A' n' c' q) :
    Calls Try.prog 28 #[.slice A n c, .slice A' n' c'] w (GivesB w (hasR p q)) := by
  obtain ⟨bp, hp⟩ : ∃ b, isP p = b := ⟨_, rfl⟩
  obtain ⟨bq, hq⟩ : ∃ b, isP q = b := ⟨_, rfl⟩
  have hb0 : Below w.heap.size w (w.alloc (.cells #[.bool false] 4)) := (Below.refl _ w).alloc (Nat.le_refl _) _
  have hc0 : Boxed (w.alloc (.cells #[.bool false] 4)) w.heap.size 4 (.bool false) := Boxed.new w _ _
  cases bp with
  | false =>
    have H1 := hide (iisperm_any A n c B p false hp _ (h.below hb0).reads (h.below hb0).under h.le h.small)
    rw [show hasR p q = false from by unfold hasR numOcc; rw [hp]; rfl]
    clear h h' hp hq
    go_enter Try.func28, Try.ntmps28
    go_wp2_with fail
    refine (unhide H1).mono ?_
    rintro e w1 ⟨rfl, d1⟩
    have hc := boxed_later hc0 d1
    have hcell := hc.cell
    have hfz := hc.frozen
    have hB2 := (below_after hb0 d1).setCell (p := ⟨w.heap.size, 0, none⟩) (Nat.le_refl _) (.bool false)
    have hc5 := World.cell?_setCell_same' w1 ⟨w.heap.size, 0, none⟩ (.bool false) (by rw [hcell]; rfl)
    clear H1 d1 hb0 hc0 hc
    go_wp2
    refine bodyPost_ret (v := .bool false) ?_ rfl ⟨rfl, hB2⟩
    simp [results, Try.f28, go_sem, hc5]
  | true =>
    cases bq with
    | false =>
      have H1 := hide (iisperm_any A n c B p true hp _ (h.below hb0).reads (h.below hb0).under h.le h.small)
      have H2 := hide (show ∀ w1, Below w.heap.size w w1 → _ from fun w1 d1 => iisperm_any A' n' c' B' q false hq w1 (h'.below d1).reads (h'.below d1).under h'.le h'.small)
      rw [show hasR p q = false from by unfold hasR numOcc; rw [hp, hq]; rfl]
      clear h h' hp hq
      go_enter Try.func28, Try.ntmps28
      go_wp2_with fail
      refine (unhide H1).mono ?_
      rintro e w1 ⟨rfl, d1⟩
      have H3 := hide (unhide H2 w1 (below_after hb0 d1))
      clear H1 H2
      go_wp2_with fail
      refine (unhide H3).mono ?_
      rintro e w2 ⟨rfl, d2⟩
      have hc := boxed_later (boxed_later hc0 d1) d2
      have hcell := hc.cell
      have hfz := hc.frozen
      have hB2 := (below_after (below_after hb0 d1) d2).setCell (p := ⟨w.heap.size, 0, none⟩) (Nat.le_refl _) (.bool false)
      have hc5 := World.cell?_setCell_same' w2 ⟨w.heap.size, 0, none⟩ (.bool false) (by rw [hcell]; rfl)
      clear H3 d1 d2 hb0 hc0 hc
      go_wp2
      refine bodyPost_ret (v := .bool false) ?_ rfl ⟨rfl, hB2⟩
      simp [results, Try.f28, go_sem, hc5]
    | true =>
      have := has_yes A A' n c B n' c' B' p q w h h' hp hq
      rw [show hasR p q = decide (0 < (occR p q).length) from by unfold hasR numOcc; rw [hp, hq]; simp only [Bool.and_self, if_true, decide_eq_decide]; omega]
      exact this
end Go.Proofs.Ytichenjbkclljaa
