/-
  Words and contracts that the laws lean on, bundled: PatA, More, Choices, OccT, TellPush, Collect, Has, ClaA, OrdP.
-/
import Derived.Test.YtoiipedomgefaaaGreatDoorB4
import Derived.Test.YtoiipedomgefaaaGreatDoorB3
import Derived.Test.YtoiipedomgefaaaGreatDoorB8
import Derived.Maps.AppendAt
import Derived.Maps.OwnIn
import Derived.Test.YtoiipedomgefaaaGreatDoorB6
import Derived.Test.YtoiipedomgefaaaGreatDoorB7
import Derived.Test.YtoiipedomgefaaaGreatDoorB5

/-
  impl.numbersAt: the numbers at places; impl.patternAt: their pattern.
-/

namespace Go.Proofs.YtoiipedomgefaaaGreatDoor
set_option maxRecDepth 100000
open Go.RowKit

theorem nums_patOK {p pl : List Int} (hp : isP p = true) (h : PlOK p.length pl) : patOK (nums p pl) = true :=
  patOK_yes (Nat.le_trans (nums_sub' h).length_le (isP_le hp)) ((isP_true.1 hp).2.2.sublist (nums_sub' h))
theorem plOK_le {n : Nat} {pl : List Int} (h : PlOK n pl) : pl.length ≤ n := by
  have h1 := nums_sub' (p := List.replicate n 0) (pl := pl) (by rw [List.length_replicate]; exact h)
  have := h1.length_le
  rwa [nums_length, List.length_replicate] at this
set_option maxHeartbeats 800000 in
theorem inums_any (A A' : Option Addr) (n c B n' c' B' : Nat) (p pl : List Int) (hp : isP p = true) (hpl : PlOK p.length pl) (w : World) (h : Arg w B A n c p) (h' : Arg w B' A' n' c' pl) :
    Calls Tryz.prog 168 #[.slice A n c, .slice A' n' c'] w (GivesI w (nums p pl)) := by
  obtain ⟨i0, hi, hz0, hz1, hz2⟩ := info_parts intInfo
  have hl := h'.len
  have hlp := h.len
  have hr := h.reads
  have hr' := h'.reads
  have hB := h.under
  have hB' := h'.under
  have hn8 : n ≤ 8 := by have := isP_le hp; omega
  have hn8' : n' ≤ 8 := by have := plOK_le hpl; omega
  have HP := hide (fun k (hk : k < n') => show 1 ≤ at0 pl k ∧ at0 pl k ≤ (n : Int) from by have := hpl.rng (i := k) (by omega); omega)
  have HL := hide (show pl.length = n' from hl)
  have HLP := hide (show p.length = n from hlp)
  obtain ⟨zs, hzs⟩ : ∃ zs, zs = nums p pl := ⟨_, rfl⟩
  have hlz : zs.length = n' := by rw [hzs, nums_length]; exact hl
  have HAT := hide (show ∀ (k : Nat) (z y : Int), k < n' → pl[k]? = some z → p[z.toNat - 1]? = some y → zs[k]? = some y from fun k z y hk hz hy => by
    have h1 := at0_some (l := nums p pl) (k := k) (by rw [nums_length]; omega)
    rw [nums_at0 (by omega), at0_of hz, at0_of hy] at h1
    rw [hzs]; exact h1)
  rw [← hzs]
  have HLZ := hide hlz
  clear hl hlp hp hpl h h' hzs hlz
  have hst := Below.refl w.heap.size w
  have hs0 := hst.size
  go_enter Tryz.func168, Tryz.ntmps168
  go_wp2_with (first
    | (at_make; refine wpList_make_full _ rfl (.tmp 9) (.tmp 9) 36 rfl w.heap.size 3 i0 (.int .i64 0) 1 Tryz.underlying36 hi hz0 hz1 _ _ _ _ n' rfl rfl (by first | rfl | omega) (by first | rfl | omega) (by rw [hz2]; omega) (by unfold maxLen; omega) hs0 ?_; intro w3 hown hg))
  have hb1 := hst.grown hg hs0 (by simp)
  clear hg hst
  obtain ⟨g, hg⟩ : ∃ g, g = w.heap.size := ⟨_, rfl⟩
  obtain ⟨xs0, hown2⟩ : ∃ xs0, w3.ownsRow w.heap.size 3 1 (.slice (some ⟨g, 0, none⟩) n' n') n' xs0 := by rw [hg]; exact ⟨_, hown⟩
  rw [← hg]
  clear hg hown
  go_loopw [6, 7, 13] (fun _ _ i wr => ∃ (k : Nat) (xs : List Value), k ≤ n' ∧ i = .int .i64 k ∧ Below w.heap.size w wr ∧ wr.ownsRow w.heap.size 3 1 (.slice (some ⟨g, 0, none⟩) n' n') n' xs ∧ Hid (xs.take k = (i64s zs).take k)) (fun _ _ i _ => n' - (intOf i).toNat)
  case atStart => exact ⟨0, _, Nat.zero_le _, rfl, hb1, hown2, by exact rfl⟩
  case round =>
    obtain ⟨k, xs, hk, rfl, hb, hown', hx⟩ := hrel
    clear hown2 hb1 hs0
    have hlx : xs.length = n' := by simpa using hown'.1
    by_cases hlt : k < n'
    · obtain ⟨ad, u, rfl, had, hu, hc⟩ := ((hr'.more hB').below hb).at_ hlt
      obtain ⟨z, hz, rfl⟩ := i64_at hu
      have hz9 : at0 pl k = z := at0_of hz
      obtain ⟨hz1', hz2'⟩ := unhide HP k hlt
      rw [hz9] at hz1' hz2'
      have hzn : z.toNat - 1 < n := by omega
      obtain ⟨ad2, u2, rfl, had2, hu2, hc2⟩ := ((hr.more hB).below hb).at_ hzn
      obtain ⟨y, hy, rfl⟩ := i64_at hu2
      obtain ⟨old, hold⟩ : ∃ old, wr.cell? ⟨g, k, none⟩ = some old := ⟨_, by rw [hown'.cellAt k (by omega)]; exact List.getElem?_eq_getElem (by omega)⟩
      have hfz := hown'.frozenAt k
      have hst := hide (take_set_i (unhide hx) (i64_get (unhide HAT k z y hlt hz hy)) (by omega))
      have ho2 := (hown'.stored k (.int .i64 y)).1
      have hb2 := below_set_i hb hown' k (.int .i64 y)
      clear hx hlx hu hu2 hz hy hown' hb
      go_wp2
      go_roundw
      case rel => exact ⟨k + 1, _, by omega, by go_num, hb2, ho2, hst⟩
      case measure => simp [intOf]; omega
    · obtain rfl : n' = k := by omega
      have hl3 : zs.length = n' := unhide HLZ
      have : xs = i64s zs := by
        have h := unhide hx
        rwa [List.take_of_length_le (by omega), List.take_of_length_le (by rw [i64_length]; omega)] at h
      subst this
      have hI : Ints wr w.heap.size (.slice (some ⟨g, 0, none⟩) n' n') zs := Ints.of_own hown'
      have hI4 := hI.low (Nat.le_refl _)
      clear hx hlx hown' hI
      go_wp2
      go_ret
      exact GivesI.mk hI4 hb
set_option maxHeartbeats 800000 in
theorem ipatat_any (A A' : Option Addr) (n c B n' c' B' : Nat) (p pl : List Int) (hp : isP p = true) (hpl : PlOK p.length pl) (w : World) (h : Arg w B A n c p) (h' : Arg w B' A' n' c' pl) :
    Calls Tryz.prog 160 #[.slice A n c, .slice A' n' c'] w (GivesI w (patA p pl)) := by
  have HSM := hide (show Small (nums p pl) from fun z hz => by
    obtain ⟨x, hx, rfl⟩ := List.mem_map.1 hz
    have hx2 := hpl.1 x hx
    have := isP_le hp
    have := isP_range hp (at0_some (show x.toNat - 1 < p.length by omega))
    omega)
  have hn8' : (nums p pl).length ≤ 8 := by have := plOK_le hpl; have := isP_le hp; rw [nums_length]; omega
  have HOK := hide (nums_patOK hp hpl)
  have H0 := hide (inums_any A A' n c B n' c' B' p pl hp hpl w h h')
  have hst := Below.refl w.heap.size w
  unfold patA
  obtain ⟨zs, hzs⟩ : ∃ zs, zs = nums p pl := ⟨_, rfl⟩
  rw [← hzs] at HSM HOK H0 hn8' ⊢
  clear h h' hp hpl hzs
  go_enter Tryz.func160, Tryz.ntmps160
  go_wp2_with fail
  refine (unhide H0).mono ?_
  rintro e w3 ⟨A3, c3, rfl, o3, hb3⟩
  have hA := o3.arg (by omega) o3.cap (unhide HSM)
  have H1 := hide (ipat_any A3 zs.length c3 _ zs true (unhide HOK) w3 hA)
  clear H0 o3 hA
  go_wp2_with fail
  refine (unhide H1).mono ?_
  rintro e w4 ⟨A4, c4, rfl, o4, hb4⟩
  rw [patR_yes (unhide HOK)] at o4 ⊢
  have hI4 := o4.low hb3.size
  have hb5 := below_after hb3 hb4
  clear H1 o4 hb4
  go_wp2
  go_ret
  exact GivesI.mk hI4 hb5
end Go.Proofs.YtoiipedomgefaaaGreatDoor


/-
  impl.chooseMore: the choices that begin with the places in the buffer, handed to yield one after the other; the buffer is lent.
-/

namespace Go.Proofs.YtoiipedomgefaaaGreatDoor
set_option maxRecDepth 100000
open Go.RowKit Go.Shelf
attribute [local go_sem] Oper.semAt_some

theorem chK_le (n m : Nat) (head : List Int) : ∀ {i j : Nat}, i ≤ j → (chK n m head i).length ≤ (chK n m head j).length := by
  intro i j h
  induction h with
  | refl => exact Nat.le_refl _
  | step h ih => rw [Nat.succ_eq_add_one, chK_step, List.length_append]; omega
/-- What lies in the buffer, block g. -/
def Buf (g K : Nat) (head : List Int) (W : World) : Prop := W.ownsRow g 3 1 (.slice (some ⟨g, 0, none⟩) head.length K) head.length (i64s head)
theorem Buf.kept {g K : Nat} {head : List Int} {W W' : World} (h : Buf g K head W) (hk : W'.heap[g]? = W.heap[g]?) : Buf g K head W' := by
  refine ⟨h.1, ?_⟩
  rcases h.2 with hn | ⟨g', cap, cur, hv, hb, hc, rest⟩
  · exact .inl hn
  · refine .inr ⟨g', cap, cur, hv, hb, ?_, rest⟩
    have : g' = g := by injection hv with h1; injection h1 with h2; injection h2 with h3; exact h3.symm
    subst this
    exact hk.trans hc
theorem Buf.lt {g K : Nat} {head : List Int} {W : World} (h : Buf g K head W) : g < W.heap.size := (World.ownsRow.lt h g rfl).2
theorem Buf.alloc {g K : Nat} {head : List Int} {W : World} (h : Buf g K head W) (o : Obj) : Buf g K head (W.alloc o) := h.kept (Below.heap_alloc W o g h.lt)
theorem Buf.ints {g K : Nat} {head : List Int} {W : World} (h : Buf g K head W) : Ints W g (.slice (some ⟨g, 0, none⟩) head.length K) head := Ints.of_own h
theorem Buf.back {g K : Nat} {head : List Int} {x : Int} {W : World} (h : Buf g K (head ++ [x]) W) : Buf g K head W := by
  unfold Buf at h
  have h1 := own_cut (s := head.length) h (by simp)
  rw [← i64_append, List.take_append_of_le_length (by rw [i64_length]; exact Nat.le_refl _), List.take_of_length_le (by rw [i64_length]; exact Nat.le_refl _)] at h1
  exact h1
/-- What chooseMore gives. -/
def Went (J Jx : List (List Int) → World → Prop) (g K : Nat) (head : List Int) (pre R : List (List Int)) (V : World) (e : Ending) (V' : World) : Prop :=
  (e = .returned (.bool true) ∧ J (pre ++ R) V' ∧ Buf g K head V' ∧ V.heap.size ≤ V'.heap.size) ∨ (e = .returned (.bool false) ∧ ∃ xs, Jx (pre ++ xs) V')
/-- What yield is asked to give. -/
def Lends (l g K n hi N : Nat) (J Jx : List (List Int) → World → Prop) : Prop :=
  ∀ m pre x V, J pre V → Buf g K x V → x.length = K → PlOK n x → hi ≤ V.heap.size → pre.length < N → YieldAt Fence.wide m Tryz.prog l #[.slice (some ⟨g, 0, none⟩) K K] V fun e V' => ∃ b : Bool, e = .returned (.bool b) ∧ (b = true → J (pre ++ [x]) V' ∧ V.heap.size ≤ V'.heap.size ∧ V'.heap[g]? = V.heap[g]?) ∧ (b = false → Jx (pre ++ [x]) V')

set_option maxRecDepth 100000 in
set_option maxHeartbeats 2000000 in
theorem more_zero (l g K n hi N : Nat) (J Jx : List (List Int) → World → Prop) (hY : Lends l g K n hi N J Jx) (head : List Int) (pre : List (List Int)) (k : Nat) (V : World) (hl : head.length = K) (hp : PlOK n head) (hj : J pre V) (hb : Buf g K head V) (hz : hi ≤ V.heap.size) (hN : pre.length < N) :
    CallsIn Fence.wide k Tryz.prog 167 #[.slice (some ⟨g, 0, none⟩) head.length K, .int .i64 n, .int .i64 K, .func (.yield l) #[] #[]] V (Went J Jx g K head pre [head] V) := by
  subst hl
  obtain ⟨fn, tmps, assign, body, hy, hR⟩ := hY (k - 1) pre head V hj hb rfl hp hz hN
  have hlt := hb.lt
  refine callsIn_of_wp Tryz.func167 rfl trivial ?_ rfl
  simp only [Tryz.ntmps167, List.size_toArray, List.length_cons, List.length_nil, Nat.reduceAdd, Nat.reduceSub, Array.replicate_succ, Array.replicate_zero, List.push_toArray, List.append_toArray, List.nil_append, List.cons_append]
  clear hY hj
  gi_wp2_with fail
  refine And.intro (fun h => absurd h (by decide)) ?_
  refine hR.mono ?_
  rintro e V2 ⟨b, rfl, h1, h2⟩
  clear hR hy
  cases b with
  | true =>
    obtain ⟨hj2, hs2, hg2⟩ := h1 rfl
    clear h1 h2
    gi_wp2
    go_ret
    exact .inl ⟨rfl, hj2, hb.kept hg2, hs2⟩
  | false =>
    have hx := h2 rfl
    clear h1 h2
    gi_wp2
    go_ret
    exact .inr ⟨rfl, [head], hx⟩

set_option maxRecDepth 100000 in
set_option maxHeartbeats 4000000 in
theorem more_stepA (l g K n lo hi N : Nat) (hlo : lo ≤ g) (hhi : g < hi) (hn8 : n ≤ 8) (J Jx : List (List Int) → World → Prop) (hJ : ∀ pre U V, J pre U → But lo hi U V → J pre V) (m : Nat)
    (ih : ∀ (head : List Int) (pre : List (List Int)) (k : Nat) (V : World), head.length + m = K → PlOK n head → J pre V → Buf g K head V → hi ≤ V.heap.size → pre.length + (chL n m head).length ≤ N →
      CallsIn Fence.wide k Tryz.prog 167 #[.slice (some ⟨g, 0, none⟩) head.length K, .int .i64 n, .int .i64 K, .func (.yield l) #[] #[]] V (Went J Jx g K head pre (chL n m head) V))
    (pre : List (List Int)) (k : Nat) (V : World) (hl : 0 + (m + 1) = K) (hp : PlOK n []) (hj : J pre V) (hb : Buf g K [] V) (hz : hi ≤ V.heap.size) (hN : pre.length + (chL n (m + 1) []).length ≤ N) :
    CallsIn Fence.wide k Tryz.prog 167 #[.slice (some ⟨g, 0, none⟩) 0 K, .int .i64 n, .int .i64 K, .func (.yield l) #[] #[]] V (Went J Jx g K [] pre (chL n (m + 1) []) V) := by
  obtain ⟨i0, hi0, hz0, hi1, hz2⟩ := info_parts intInfo
  have hne : ((0 : Int) == (K : Int)) = false := by rw [beq_eq_false_iff_ne]; omega
  refine callsIn_of_wp Tryz.func167 rfl trivial ?_ rfl
  simp only [Tryz.ntmps167, List.size_toArray, List.length_cons, List.length_nil, Nat.reduceAdd, Nat.reduceSub, Array.replicate_succ, Array.replicate_zero, List.push_toArray, List.append_toArray, List.nil_append, List.cons_append]
  gi_wp2_with fail
  gi_loopw [9] (fun nx wr => ∃ j : Nat, j ≤ n - lastP [] ∧ nx = .int .i64 ((lastP [] + j + 1 : Nat) : Int) ∧ J (pre ++ chK n m [] j) wr ∧ Buf g K [] wr ∧ hi ≤ wr.heap.size ∧ V.heap.size ≤ wr.heap.size) (fun nx _ => n + 1 - (intOf nx).toNat)
  case atStart => exact ⟨0, Nat.zero_le _, rfl, by rw [chK_zero, List.append_nil]; exact hj, hb, hz, Nat.le_refl _⟩
  case round =>
    obtain ⟨j, hjn, rfl, hj1, hb1, hz1, hs1⟩ := hrel
    clear hj hb hz
    by_cases hlt : j < n - lastP []
    · obtain ⟨x, hx⟩ : ∃ x : Nat, x = lastP [] + j + 1 := ⟨_, rfl⟩
      have hxn : x ≤ n := by omega
      have hle : ((x : Nat) : Int) ≤ (n : Int) := by omega
      have H1 := hide (show ∀ w', (wr.alloc (.cells #[.int .i64 (x : Int)] 3)).grownBy w' (some g) → w'.ownsRow g 3 1 (.slice (some ⟨g, 0, none⟩) 1 K) 1 ([.int .i64 (x : Int)]) →
          CallsIn Fence.wide (k - 1) Tryz.prog 167 #[.slice (some ⟨g, 0, none⟩) 1 K, .int .i64 n, .int .i64 K, .func (.yield l) #[] #[]] w' fun e V' => (e = .returned (.bool true) ∧ J (pre ++ chK n m [] (j + 1)) V' ∧ Buf g K [] V' ∧ w'.heap.size ≤ V'.heap.size) ∨ (e = .returned (.bool false) ∧ ∃ xs, Jx (pre ++ xs) V') from fun w' hg' ho' => by
        have hok : PlOK n ([] ++ [((lastP [] + j + 1 : Nat) : Int)]) := PlOK.snoc.2 ⟨hp, by omega, by omega⟩
        have hbut : But lo hi wr w' := (But.alloc _ _).trans (But.grown hg' fun k e => by cases e; exact ⟨hlo, hhi⟩)
        have hN2 : (pre ++ chK n m [] j).length + (chL n m ([] ++ [((lastP [] + j + 1 : Nat) : Int)])).length ≤ N := by
          have h1 := chK_le n m [] (show j + 1 ≤ n - lastP [] by omega)
          rw [chK_step, List.length_append] at h1
          rw [chK_all] at h1
          rw [List.length_append]; omega
        have hsz' := hg'.size
        have hrec := ih ([] ++ [((lastP [] + j + 1 : Nat) : Int)]) (pre ++ chK n m [] j) (k - 1) w' (by simp; omega) hok (hJ _ _ _ hj1 hbut) (by show w'.ownsRow g 3 1 (.slice (some ⟨g, 0, none⟩) 1 K) 1 [.int .i64 ((lastP [] + j + 1 : Nat) : Int)]; rw [← hx]; exact ho') (by simp at hsz'; omega) hN2
        refine (show CallsIn Fence.wide (k - 1) Tryz.prog 167 #[.slice (some ⟨g, 0, none⟩) 1 K, .int .i64 n, .int .i64 K, .func (.yield l) #[] #[]] w' _ from hrec).mono ?_
        rintro e V' (⟨rfl, h1, h2, h3⟩ | ⟨rfl, xs, h1⟩)
        · exact .inl ⟨rfl, by rw [chK_step, ← List.append_assoc]; exact h1, h2.back, h3⟩
        · exact .inr ⟨rfl, _, by rw [← List.append_assoc]; exact h1⟩)
      rw [← hx]
      have hown : (wr.alloc (.cells #[.int .i64 (x : Int)] 3)).ownsRow g 3 1 (.slice (some ⟨g, 0, none⟩) 0 K) 0 [] := hb1.alloc _
      have hroom : 1 ≤ K := by omega
      have HX := hide hx
      clear ih hJ hp hN hjn hlt hx hxn hj1
      gi_wp2_with (first
        | (gi_at_builtin; refine wpListIn_append_fits _ rfl (.tmp 32) (.tmp 34) 36 rfl g 3 i0 1 Tryz.underlying36 hi0 hi1 g 0 K [] rfl hown ⟨wr.heap.size, 0, none⟩ 1 1 [.int .i64 (x : Int)] rfl rfl (cell_one_new _ _ _) (by simp [Value.oneCell']) hroom ?_; intro w' hown' hg'; have H2 := hide (unhide H1 w' hg' hown'); have hsz' := hg'.size; clear H1 hown hown' hg'))
      refine And.intro trivial (And.intro (fun h => absurd h (by decide)) ?_)
      refine (unhide H2).mono ?_
      rintro e V1 (⟨rfl, hj2, hb2, hs2⟩ | ⟨rfl, xs, hx2⟩)
      · clear H2
        have hx := unhide HX
        have hsz2 : wr.heap.size ≤ V1.heap.size := by simp at hsz'; omega
        clear hsz' hs2
        gi_wp2
        go_roundw
        case rel => exact ⟨j + 1, by have := unhide HX; omega, by have := unhide HX; go_num, hj2, hb2, by omega, by omega⟩
        case measure => have := unhide HX; simp [intOf]; omega
      · clear H2
        gi_wp2
        go_ret
        exact .inr ⟨rfl, xs, hx2⟩
    · have hje : j = n - lastP [] := by omega
      have hle := lastP_le hp
      have hgt : ¬ (((lastP [] + j + 1 : Nat) : Int) ≤ (n : Int)) := by omega
      rw [hje, chK_all] at hj1
      clear hje ih hJ hp hN hjn hlt
      gi_wp2
      go_ret
      exact .inl ⟨rfl, hj1, hb1, hs1⟩

set_option maxRecDepth 100000 in
set_option maxHeartbeats 4000000 in
theorem more_stepB (l g K n lo hi N : Nat) (hlo : lo ≤ g) (hhi : g < hi) (hn8 : n ≤ 8) (J Jx : List (List Int) → World → Prop) (hJ : ∀ pre U V, J pre U → But lo hi U V → J pre V) (m : Nat)
    (ih : ∀ (head : List Int) (pre : List (List Int)) (k : Nat) (V : World), head.length + m = K → PlOK n head → J pre V → Buf g K head V → hi ≤ V.heap.size → pre.length + (chL n m head).length ≤ N →
      CallsIn Fence.wide k Tryz.prog 167 #[.slice (some ⟨g, 0, none⟩) head.length K, .int .i64 n, .int .i64 K, .func (.yield l) #[] #[]] V (Went J Jx g K head pre (chL n m head) V))
    (head : List Int) (hcase : 0 < head.length) (pre : List (List Int)) (k : Nat) (V : World) (hl : head.length + (m + 1) = K) (hp : PlOK n head) (hj : J pre V) (hb : Buf g K head V) (hz : hi ≤ V.heap.size) (hN : pre.length + (chL n (m + 1) head).length ≤ N) :
    CallsIn Fence.wide k Tryz.prog 167 #[.slice (some ⟨g, 0, none⟩) head.length K, .int .i64 n, .int .i64 K, .func (.yield l) #[] #[]] V (Went J Jx g K head pre (chL n (m + 1) head) V) := by
  obtain ⟨i0, hi0, hz0, hi1, hz2⟩ := info_parts intInfo
  have hne : ((head.length : Int) == (K : Int)) = false := by rw [beq_eq_false_iff_ne]; omega
  have hc0 : 0 < (head.length : Int) := by omega
  have hlast := lastP_at hcase
  have hr := hp.rng (i := head.length - 1) (by omega)
  have hb0 : (0 : Int) ≤ (head.length : Int) - 1 := by omega
  have hb1' : (head.length : Int) - 1 < (head.length : Int) := by omega
  have hwr : IntKind.i64.wrap ((head.length : Int) - 1) = (head.length : Int) - 1 := by rw [IntKind.wrap_i64]; have := plOK_le hp; omega
  have hti : ((head.length : Int) - 1).toNat = head.length - 1 := by omega
  have hcell : V.cell? ⟨g, head.length - 1, none⟩ = some (.int .i64 (at0 head (head.length - 1))) := by
    rw [World.ownsRow.cellAt hb (head.length - 1) (by omega)]
    exact i64_get (at0_some (by omega))
  have hwr2 : IntKind.i64.wrap (at0 head (head.length - 1) + 1) = at0 head (head.length - 1) + 1 := by rw [IntKind.wrap_i64]; omega
  refine callsIn_of_wp Tryz.func167 rfl trivial ?_ rfl
  simp only [Tryz.ntmps167, List.size_toArray, List.length_cons, List.length_nil, Nat.reduceAdd, Nat.reduceSub, Array.replicate_succ, Array.replicate_zero, List.push_toArray, List.append_toArray, List.nil_append, List.cons_append]
  gi_wp2_with fail
  gi_loopw [9] (fun nx wr => ∃ j : Nat, j ≤ n - lastP head ∧ nx = .int .i64 ((lastP head + j + 1 : Nat) : Int) ∧ J (pre ++ chK n m head j) wr ∧ Buf g K head wr ∧ hi ≤ wr.heap.size ∧ V.heap.size ≤ wr.heap.size) (fun nx _ => n + 1 - (intOf nx).toNat)
  case atStart => exact ⟨0, Nat.zero_le _, by rw [hlast]; congr 1; omega, by rw [chK_zero, List.append_nil]; exact hj, hb, hz, Nat.le_refl _⟩
  case round =>
    obtain ⟨j, hjn, rfl, hj1, hb1, hz1, hs1⟩ := hrel
    clear hj hb hz
    by_cases hlt : j < n - lastP head
    · obtain ⟨x, hx⟩ : ∃ x : Nat, x = lastP head + j + 1 := ⟨_, rfl⟩
      have hxn : x ≤ n := by omega
      have hle : ((x : Nat) : Int) ≤ (n : Int) := by omega
      have H1 := hide (show ∀ w', (wr.alloc (.cells #[.int .i64 (x : Int)] 3)).grownBy w' (some g) → w'.ownsRow g 3 1 (.slice (some ⟨g, 0, none⟩) (head.length + 1) K) (head.length + 1) (i64s head ++ [.int .i64 (x : Int)]) →
          CallsIn Fence.wide (k - 1) Tryz.prog 167 #[.slice (some ⟨g, 0, none⟩) (head.length + 1) K, .int .i64 n, .int .i64 K, .func (.yield l) #[] #[]] w' fun e V' => (e = .returned (.bool true) ∧ J (pre ++ chK n m head (j + 1)) V' ∧ Buf g K head V' ∧ w'.heap.size ≤ V'.heap.size) ∨ (e = .returned (.bool false) ∧ ∃ xs, Jx (pre ++ xs) V') from fun w' hg' ho' => by
        have hok : PlOK n (head ++ [((lastP head + j + 1 : Nat) : Int)]) := PlOK.snoc.2 ⟨hp, by omega, by omega⟩
        have hbut : But lo hi wr w' := (But.alloc _ _).trans (But.grown hg' fun k e => by cases e; exact ⟨hlo, hhi⟩)
        have hN2 : (pre ++ chK n m head j).length + (chL n m (head ++ [((lastP head + j + 1 : Nat) : Int)])).length ≤ N := by
          have h1 := chK_le n m head (show j + 1 ≤ n - lastP head by omega)
          rw [chK_step, List.length_append] at h1
          rw [chK_all] at h1
          rw [List.length_append]; omega
        have hsz' := hg'.size
        have hrec := ih (head ++ [((lastP head + j + 1 : Nat) : Int)]) (pre ++ chK n m head j) (k - 1) w' (by simp; omega) hok (hJ _ _ _ hj1 hbut) (by unfold Buf; rw [List.length_append, List.length_singleton, ← i64_append, ← hx]; exact ho') (by simp at hsz'; omega) hN2
        rw [List.length_append, List.length_singleton] at hrec
        refine hrec.mono ?_
        rintro e V' (⟨rfl, h1, h2, h3⟩ | ⟨rfl, xs, h1⟩)
        · exact .inl ⟨rfl, by rw [chK_step, ← List.append_assoc]; exact h1, h2.back, h3⟩
        · exact .inr ⟨rfl, _, by rw [← List.append_assoc]; exact h1⟩)
      rw [← hx]
      have hown : (wr.alloc (.cells #[.int .i64 (x : Int)] 3)).ownsRow g 3 1 (.slice (some ⟨g, 0, none⟩) head.length K) head.length (i64s head) := hb1.alloc _
      have hroom : head.length + 1 ≤ K := by omega
      have HX := hide hx
      clear ih hJ hp hN hjn hlt hx hxn hj1
      gi_wp2_with (first
        | (gi_at_builtin; refine wpListIn_append_fits _ rfl (.tmp 32) (.tmp 34) 36 rfl g 3 i0 1 Tryz.underlying36 hi0 hi1 g head.length K (i64s head) rfl hown ⟨wr.heap.size, 0, none⟩ 1 1 [.int .i64 (x : Int)] rfl rfl (cell_one_new _ _ _) (by simp [Value.oneCell']) hroom ?_; intro w' hown' hg'; have H2 := hide (unhide H1 w' hg' hown'); have hsz' := hg'.size; clear H1 hown hown' hg'))
      refine And.intro trivial (And.intro (fun h => absurd h (by decide)) ?_)
      refine (unhide H2).mono ?_
      rintro e V1 (⟨rfl, hj2, hb2, hs2⟩ | ⟨rfl, xs, hx2⟩)
      · clear H2
        have hx := unhide HX
        have hsz2 : wr.heap.size ≤ V1.heap.size := by simp at hsz'; omega
        clear hsz' hs2
        gi_wp2
        go_roundw
        case rel => exact ⟨j + 1, by have := unhide HX; omega, by have := unhide HX; go_num, hj2, hb2, by omega, by omega⟩
        case measure => have := unhide HX; simp [intOf]; omega
      · clear H2
        gi_wp2
        go_ret
        exact .inr ⟨rfl, xs, hx2⟩
    · have hje : j = n - lastP head := by omega
      have hle := lastP_le hp
      have hgt : ¬ (((lastP head + j + 1 : Nat) : Int) ≤ (n : Int)) := by omega
      rw [hje, chK_all] at hj1
      clear hje ih hJ hp hN hjn hlt
      gi_wp2
      go_ret
      exact .inl ⟨rfl, hj1, hb1, hs1⟩

theorem more_any (l g K n lo hi N : Nat) (hlo : lo ≤ g) (hhi : g < hi) (hn8 : n ≤ 8) (J Jx : List (List Int) → World → Prop) (hJ : ∀ pre U V, J pre U → But lo hi U V → J pre V) (hY : Lends l g K n hi N J Jx) :
    ∀ (m : Nat) (head : List Int) (pre : List (List Int)) (k : Nat) (V : World), head.length + m = K → PlOK n head → J pre V → Buf g K head V → hi ≤ V.heap.size → pre.length + (chL n m head).length ≤ N →
      CallsIn Fence.wide k Tryz.prog 167 #[.slice (some ⟨g, 0, none⟩) head.length K, .int .i64 n, .int .i64 K, .func (.yield l) #[] #[]] V (Went J Jx g K head pre (chL n m head) V)
  | 0, head, pre, k, V, hl, hp, hj, hb, hz, hN => more_zero l g K n hi N J Jx hY head pre k V hl hp hj hb hz (by rw [chL, List.length_singleton] at hN; omega)
  | m + 1, head, pre, k, V, hl, hp, hj, hb, hz, hN => by
    have ih := more_any l g K n lo hi N hlo hhi hn8 J Jx hJ hY m
    by_cases h0 : head.length = 0
    · obtain rfl := List.eq_nil_of_length_eq_zero h0
      exact more_stepA l g K n lo hi N hlo hhi hn8 J Jx hJ m ih pre k V hl hp hj hb hz hN
    · exact more_stepB l g K n lo hi N hlo hhi hn8 J Jx hJ m ih head (by omega) pre k V hl hp hj hb hz hN
end Go.Proofs.YtoiipedomgefaaaGreatDoor


/-
  impl.choices: an iterator over the choices in order; the list is lent.
-/

namespace Go.Proofs.YtoiipedomgefaaaGreatDoor
set_option maxRecDepth 100000
open Go.RowKit Go.Shelf
attribute [local go_sem] Oper.semAt_some

theorem boxed_later {W W' : World} {b : Nat} {t : TypeId} {v : Value} (h : Boxed W b t v) (hb : Below W.heap.size W W') : Boxed W' b t v := (hb.block b h.lt).trans h
theorem icho_any (n K : Int) (w : World) :
    Calls Tryz.prog 159 #[.int .i64 n, .int .i64 K] w fun e w' => e = .returned (.func (.func 166) #[] #[.pointer (some ⟨w.heap.size + 1, 0, none⟩), .pointer (some ⟨w.heap.size, 0, none⟩)]) ∧ w' = (w.alloc (.cells #[.int .i64 n] 3)).alloc (.cells #[.int .i64 K] 3) := by
  go_enter Tryz.func159, Tryz.ntmps159
  go_wp2
  go_ret
  exact ⟨rfl, rfl⟩

set_option maxRecDepth 100000 in
set_option maxHeartbeats 2000000 in
theorem choices_tell (n K N bn bk : Nat) (hn8 : n ≤ 8) (hK8 : K ≤ 8) (hN : (chR n K).length ≤ N) (m : Nat) (w : World) (hbn : Boxed w bn 3 (.int .i64 n)) (hbk : Boxed w bk 3 (.int .i64 K)) :
    TellsZ Fence.wide m Tryz.prog 166 #[.pointer (some ⟨bk, 0, none⟩), .pointer (some ⟨bn, 0, none⟩)] 1 (fun _ : List Int => #[.slice (some ⟨w.heap.size + 2, 0, none⟩) K K]) (fun _ x V => Buf (w.heap.size + 2) K x V ∧ x.length = K ∧ PlOK n x)
      (fun V V' => V.heap.size ≤ V'.heap.size ∧ V'.heap[w.heap.size + 2]? = V.heap[w.heap.size + 2]?) (fun xs => xs = chR n K) (fun _ => True) N w := by
  intro l J Jx W hW hsz hJ hJx hY h0
  obtain ⟨i0, hi, hz0, hz1, hz2⟩ := info_parts intInfo
  have hcn := Boxed.cell (boxed_later hbn hW)
  have hck := Boxed.cell (boxed_later hbk hW)
  obtain ⟨w3, hrun, hown, hg⟩ := run_make_own (P := Tryz.prog) W.drew W.heap.size 36 3 i0 (.int .i64 0) 1 Tryz.underlying36 hi hz0 hz1 .i64 .i64 K (by rw [hz2]; omega) (by unfold maxLen; omega) (Nat.le_refl _)
  have hb3 := (below_drew W.heap.size W).grown hg (Nat.le_refl _) (by simp)
  have hlt := (Array.getElem?_eq_some_iff.1 hbn).1
  have hlt' := (Array.getElem?_eq_some_iff.1 hbk).1
  have hcn3 := (hb3.cell (p := ⟨bn, 0, none⟩) (by rw [hsz]; show bn < _; omega)).trans hcn
  have hck3 := (hb3.cell (p := ⟨bk, 0, none⟩) (by rw [hsz]; show bk < _; omega)).trans hck
  have hs3 : w.heap.size + 2 < w3.heap.size := by rw [← hsz]; exact (World.ownsRow.lt hown _ rfl).2
  have h1 : Buf (w.heap.size + 2) K [] w3 := by unfold Buf; rw [← hsz]; exact hown
  have HM := hide (show CallsIn Fence.wide 0 Tryz.prog 167 #[.slice (some ⟨w.heap.size + 2, 0, none⟩) 0 K, .int .i64 n, .int .i64 K, .func (.yield l) #[] #[]] w3 (fun e V => ∃ b : Bool, e = .returned (.bool b) ∧ ((∃ xs, xs = chR n K ∧ J xs V) ∨ ∃ pre, True ∧ Jx pre V)) from (more_any l (w.heap.size + 2) K n (w.heap.size + 2) (w.heap.size + 2 + 1) N (Nat.le_refl _) (Nat.lt_succ_self _) hn8 J Jx hJ
    (fun m' pre x V hj hb hxl hok hz hlen => round_any rfl ((hY pre x V V hj hz (Below.refl _ V) ⟨hb, hxl, hok⟩ hlen).mono (by
      rintro e V' (⟨rfl, h1, h2, h3⟩ | ⟨rfl, h1, _⟩)
      · exact ⟨true, rfl, fun _ => ⟨h1, h2, h3⟩, fun h => by cases h⟩
      · exact ⟨false, rfl, fun h => by (cases h), fun _ => h1⟩)))
    K [] [] 0 w3 (by simp) (PlOK.nil n) (hJ _ _ _ h0 ((But.of_below (hsz ▸ hb3)))) h1 (by omega) (by rw [List.length_nil, Nat.zero_add]; exact hN)).mono (by
      rintro e V (⟨rfl, h1, _⟩ | ⟨rfl, xs, h1⟩)
      · exact ⟨true, rfl, .inl ⟨_, rfl, h1⟩⟩
      · exact ⟨false, rfl, .inr ⟨_, trivial, h1⟩⟩))
  rw [show W.drew.heap.size = w.heap.size + 2 from hsz] at hrun
  change CallsIn Fence.wide m Tryz.prog 166 #[.func (.yield l) #[] #[], .pointer (some ⟨bk, 0, none⟩), .pointer (some ⟨bn, 0, none⟩)] W _
  refine callsIn_wide.2 ?_
  clear hY hJ hJx h0 hW hbn hbk h1 hown hg
  go_enter Tryz.func166, Tryz.ntmps166
  go_wp2_with fail
  have hcn0 : W.drew.cell? ⟨bn, 0, none⟩ = some (.int .i64 n) := hcn
  have hck0 : W.drew.cell? ⟨bk, 0, none⟩ = some (.int .i64 K) := hck
  go_region_with
    (first
      | (go_simp; go_at_call 167; refine (callsIn_wide.1 (unhide HM)).mono ?_; rintro e w4 ⟨b, rfl, h4⟩))
  all_goals go_wp2
  all_goals go_end0
  all_goals exact ⟨⟨_, rfl⟩, h4⟩
end Go.Proofs.YtoiipedomgefaaaGreatDoor


/-
  impl.occurrences: an iterator over the occurrences in order; each list is new.
-/

namespace Go.Proofs.YtoiipedomgefaaaGreatDoor
set_option maxRecDepth 100000
open Go.RowKit Go.Shelf
attribute [local go_sem] Oper.semAt_some

theorem arg_kept {w w' : World} {B n c : Nat} {A : Option Addr} {zs : List Int} (h : Arg w B A n c zs) (hs : w.heap.size ≤ w'.heap.size) (hk : ∀ k, k < B → w'.heap[k]? = w.heap[k]?) : Arg w' B A n c zs :=
  ⟨h.reads.keep fun p hp => by unfold World.cell?; rw [hk p.block hp], Nat.le_trans h.under hs, h.le, h.cap, h.small, h.nil⟩
theorem iocs_made (A A' : Option Addr) (n c n' c' : Nat) (w : World) :
    Calls Tryz.prog 143 #[.slice A n c, .slice A' n' c'] w fun e w' => e = .returned (.func (.func 158) #[] #[.pointer (some ⟨w.heap.size, 0, none⟩), .pointer (some ⟨w.heap.size + 1, 0, none⟩)]) ∧ w' = (w.alloc (.cells #[.slice A n c] 36)).alloc (.cells #[.slice A' n' c'] 36) := by
  go_enter Tryz.func143, Tryz.ntmps143
  go_wp2
  go_ret
  exact ⟨rfl, rfl⟩

/-- What a handed occurrence is. -/
def KnO (p q : List Int) (U : World) (x : Value × List Int) (V : World) : Prop := Ints V U.heap.size x.1 x.2 ∧ x.2 ∈ occR p q
/-- Each of them is one. -/
def AllIn (p q : List Int) (xs : List (Value × List Int)) : Prop := ∀ x ∈ xs, x.2 ∈ occR p q
/-- What the iterator over occurrences needs to lie as it lay. -/
structure KeptO (P : Nat → Prop) (B B' bp bq lo : Nat) : Prop where
  p : ∀ k, k < B → P k
  q : ∀ k, k < B' → P k
  bp : P bp
  bq : P bq
  zone : ∀ k, lo ≤ k → k < lo + 6 → P k
/-- What holds while it runs. -/
structure AtO (A A' : Option Addr) (n c B n' c' B' : Nat) (p q : List Int) (bp bq by_ l : Nat) (V : World) : Prop where
  p : Arg V B A n c p
  q : Arg V B' A' n' c' q
  bp : Boxed V bp 36 (.slice A n c)
  bq : Boxed V bq 36 (.slice A' n' c')
  by_ : Boxed V by_ 45 (.func (.yield l) #[] #[])

theorem AtO.below {A A' : Option Addr} {n c B n' c' B' : Nat} {p q : List Int} {bp bq by_ l : Nat} {U V : World} (h : AtO A A' n c B n' c' B' p q bp bq by_ l U) (hb : Below U.heap.size U V) : AtO A A' n c B n' c' B' p q bp bq by_ l V :=
  ⟨h.p.below hb, h.q.below hb, boxed_later h.bp hb, boxed_later h.bq hb, boxed_later h.by_ hb⟩
theorem AtO.drew {A A' : Option Addr} {n c B n' c' B' : Nat} {p q : List Int} {bp bq by_ l : Nat} {U : World} (h : AtO A A' n c B n' c' B' p q bp bq by_ l U) : AtO A A' n c B n' c' B' p q bp bq by_ l U.drew := h.below (below_drew _ U)
theorem patA_small {p pl : List Int} (hp : isP p = true) (h : PlOK p.length pl) : Small (patA p pl) := fun z hz => by
  obtain ⟨k, hk⟩ := List.getElem?_of_mem hz
  have h1 : isP (patA p pl) = true := by unfold patA; rw [isP_pat]; exact nums_patOK hp h
  have := isP_range h1 hk
  have := isP_le h1
  omega
set_option maxRecDepth 100000 in
set_option maxHeartbeats 4000000 in
theorem occ_tell (A A' : Option Addr) (n c B n' c' B' : Nat) (p q : List Int) (hp : isP p = true) (hq : isP q = true) (P : Nat → Prop) (bp bq N : Nat) (w : World) (hpA : Arg w B A n c p) (hqA : Arg w B' A' n' c' q)
    (hbp : Boxed w bp 36 (.slice A n c)) (hbq : Boxed w bq 36 (.slice A' n' c')) (hk : KeptO P B B' bp bq (w.heap.size + 2)) (m : Nat) (hN : (chR n n').length ≤ N) :
    TellsZ Fence.wide m Tryz.prog 158 #[.pointer (some ⟨bp, 0, none⟩), .pointer (some ⟨bq, 0, none⟩)] 6 (fun x : Value × List Int => #[x.1]) (KnO p q) (Keep P) (fun xs => xs.map (·.2) = occR p q) (AllIn p q) N w := by
  intro l J Jx W hW hsz hJ hJx hY h0
  change CallsIn Fence.wide m Tryz.prog 158 #[.func (.yield l) #[] #[], .pointer (some ⟨bp, 0, none⟩), .pointer (some ⟨bq, 0, none⟩)] W _
  have hn8 : n ≤ 8 := by have := isP_le hp; have := hpA.len; omega
  have hn8' : n' ≤ 8 := by have := isP_le hq; have := hqA.len; omega
  have hbpl := Boxed.lt hbp
  have hbql := Boxed.lt hbq
  have hBu := hpA.under
  have hBu' := hqA.under
  -- the world ahead of the loop
  obtain ⟨w1, hw1⟩ : ∃ w1, w1 = W.alloc (.cells #[.func (.yield l) #[] #[]] 45) := ⟨_, rfl⟩
  have hs1 : w1.heap.size = w.heap.size + 3 := by rw [hw1]; simp [hsz]
  have hb1 : Below W.heap.size W w1 := by rw [hw1]; exact (Below.refl _ W).alloc (Nat.le_refl _) _
  obtain ⟨w3, hw3⟩ : ∃ w3, w3 = (w1.alloc (.cells #[.int .i64 n] 3)).alloc (.cells #[.int .i64 n'] 3) := ⟨_, rfl⟩
  have hs3 : w3.heap.size = w.heap.size + 5 := by rw [hw3]; simp [hs1]
  have hb3 : Below w1.heap.size w1 w3 := by rw [hw3]; exact ((Below.refl _ w1).alloc (Nat.le_refl _) _).alloc (by simp) _
  have hbW3 : Below W.heap.size W w3 := below_after hb1 hb3
  have hbw1 : Below w.heap.size w w1 := below_after hW hb1
  have hbw3 : Below w.heap.size w w3 := below_after hW hbW3
  have hby1 : Boxed w1 (w.heap.size + 2) 45 (.func (.yield l) #[] #[]) := by rw [hw1, ← hsz]; exact Boxed.new W _ _
  have hAt : AtO A A' n c B n' c' B' p q bp bq (w.heap.size + 2) l w3 := ⟨hpA.below hbw3, hqA.below hbw3, boxed_later hbp hbw3, boxed_later hbq hbw3, boxed_later hby1 hb3⟩
  have hbn : Boxed w3 (w.heap.size + 3) 3 (.int .i64 n) := by rw [hw3, ← hs1]; exact Boxed.alloc (Boxed.new w1 _ _) _
  have hbk : Boxed w3 (w.heap.size + 4) 3 (.int .i64 n') := by
    have := Boxed.new (w1.alloc (.cells #[.int .i64 n] 3)) 3 (.int .i64 n')
    rw [World.size_alloc, hs1] at this
    rw [hw3]; exact this
  have hJ3 : J [] w3 := hJ _ _ _ h0 (But.of_below hbW3)
  have hseq := choices_tell n n' N (w.heap.size + 3) (w.heap.size + 4) hn8 hn8' hN 3 w3 hbn hbk
  have hcp1 := Boxed.cell (boxed_later hbp hbw1)
  have hcq1 := Boxed.cell (boxed_later hbq hbw1)
  have HC := hide (fun w' => icho_any n n' w')
  refine callsIn_wide.2 ((callsIn_wide (n := 4)).1 ?_)
  refine callsIn_of_wp_marks Tryz.func158 rfl trivial ?_ rfl
  simp only [Tryz.ntmps158, List.size_toArray, List.length_cons, List.length_nil, Nat.reduceAdd, Nat.reduceSub, Array.replicate_succ, Array.replicate_zero, List.push_toArray, List.append_toArray, List.nil_append, List.cons_append]
  rw [hw1] at hcp1 hcq1
  have HW1 := hide hw1
  have HW3 := hide hw3
  clear hw1 hw3
  gi_wp2_with fail
  refine ⟨trivial, ?_⟩
  refine (callsIn_wide.2 (unhide HC _)).mono ?_
  rintro e w2 ⟨rfl, hw2⟩
  rw [← unhide HW1, ← unhide HW3] at hw2
  subst hw2
  rw [← unhide HW1, hs1]
  clear HC HW1 HW3 hcp1 hcq1
  have HBD := hide (⟨hk, hJ, hJx⟩ : KeptO P B B' bp bq (w.heap.size + 2) ∧ (∀ pre U V, J pre U → But (w.heap.size + 2) (w.heap.size + 2 + 6) U V → J pre V) ∧ (∀ pre U V, Jx pre U → But (w.heap.size + 2) (w.heap.size + 2 + 6) U V → Jx pre V))
  have HFI := hide (occ_filter hp hq)
  have HIN := hide (show ∀ pl, patA p pl = q → pl.length = n' → PlOK n pl → pl ∈ occR p q from fun pl h1 h2 h3 => by
    have e1 := hpA.len
    have e2 := hqA.len
    exact mem_occ.2 (isOcc_iff.2 ⟨hp, hq, by omega, by rw [e1]; exact h3, h1⟩))
  have e1 := hpA.len
  have e2 := hqA.len
  have hwle := hbw3.size
  clear hW h0 hb1 hb3 hbW3 hbw1 hbw3 hby1 hbn hbk hpA hqA hbp hbq hJ hJx hk hs1
  gi_wp2
  refine range_zone rfl (by decide) (gf := 166) (lb := #[.pointer (some ⟨w.heap.size + 4, 0, none⟩), .pointer (some ⟨w.heap.size + 3, 0, none⟩)]) rfl trivial (enters_of Tryz.func166 (by kernel_rfl) rfl)
    hseq (fun h k => ⟨Nat.le_trans h.1 k.1, k.2.trans h.2⟩) (fun W r r' hd => ⟨by unfold World.putObj; simp, World.putObj_heap_other (by omega)⟩) (fun _ => rfl) (fun U V x r r' hdU hdV h => ⟨h.1.kept (World.putObj_heap_other (by omega)), h.2⟩)
    (fun pre V => ∃ xs, (J xs V ∧ xs.map (·.2) = pre.filter (fun pl => decide (patA p pl = q))) ∧ AtO A A' n c B n' c' B' p q bp bq (w.heap.size + 2) l V ∧ AllIn p q xs)
    (fun c _ V => c = .ret ∧ ∃ xs, Jx xs V ∧ AllIn p q xs)
    (fun pre U V h hb => by
      obtain ⟨xs, ⟨h1, h2⟩, h3, h4⟩ := h
      exact ⟨xs, ⟨(unhide HBD).2.1 _ _ _ h1 (hb.mono (by omega) (by omega)), h2⟩, ⟨arg_kept h3.p hb.size fun k hk => hb.block k (by have := h3.p.under; omega) (by omega), arg_kept h3.q hb.size fun k hk => hb.block k (by have := h3.q.under; omega) (by omega), Boxed.but h3.bp hb (by omega), Boxed.but h3.bq hb (by omega), Boxed.but h3.by_ hb (by omega)⟩, h4⟩)
    (fun c pre U V h hb => by
      obtain ⟨hc, xs, h1, h2⟩ := h
      exact ⟨hc, xs, (unhide HBD).2.2 _ _ _ h1 (hb.mono (by omega) (by omega)), h2⟩)
    ⟨[], ⟨hJ3, rfl⟩, hAt, fun x hx => by cases hx⟩
    (fun _ => { tmps := #[.func (.yield l) #[] #[], .pointer (some ⟨bp, 0, none⟩), .pointer (some ⟨bq, 0, none⟩), .pointer (some ⟨w.heap.size + 2, 0, none⟩), .slice (some ⟨w2.heap.size + 2, 0, none⟩) n' n', .slice A n c, .int .i64 n, .slice A' n' c', .int .i64 n',
      .func (.func 166) #[] #[.pointer (some ⟨w.heap.size + 4, 0, none⟩), .pointer (some ⟨w.heap.size + 3, 0, none⟩)], .slice (some ⟨w2.heap.size + 2, 0, none⟩) n' n', undef, undef, undef, undef, undef, undef, undef, undef, undef, undef, undef, undef], defers := [] }) ?assign ?body ?done ?stop
  case assign =>
    intro l x W K hK
    clear hs3
    gi_wp2
    exact hK
  case body =>
    rintro l2 pre pl U V ⟨xs, ⟨hJU, hxs⟩, hAtU, hall⟩ hzU hbU ⟨hbuf, hpl, hok⟩ hlen
    obtain ⟨g, hg⟩ : ∃ g, g = w2.heap.size + 2 := ⟨_, rfl⟩
    rw [← hg] at hbuf ⊢
    have hAtV0 := hAtU.below hbU
    have hAtV := hAtV0.drew
    have hJV := (unhide HBD).2.1 _ _ _ hJU (But.of_below hbU)
    have hsm : Small pl := fun z hz => by have := hok.1 z hz; omega
    have hApl := ((hpl ▸ hbuf.ints : Ints V g (.slice (some ⟨g, 0, none⟩) n' n') pl).arg (by omega) (Nat.le_refl _) hsm).drew
    have hcp := Boxed.cell hAtV.bp
    have hcq := Boxed.cell hAtV.bq
    have hcy := Boxed.cell hAtV.by_
    have H1 := hide (ipatat_any A (some ⟨g, 0, none⟩) n c B n' n' _ p pl hp (e1.symm ▸ hok) V.drew hAtV.p hApl)
    have hmx : Tryz.prog.follows .mixedOrders = true := by kernel_rfl
    by_cases hyes : patA p pl = q
    · have hdec : decide (patA p pl = q) = true := by simpa using hyes
      have H2 := hide (show ∀ (A4 : Option Addr) (c4 : Nat) (w4 : World), Ints w4 V.drew.heap.size (.slice A4 (patA p pl).length c4) (patA p pl) → Below V.drew.heap.size V.drew w4 → Calls Tryz.prog 106 #[.slice A4 (patA p pl).length c4, .slice A' n' c'] w4 fun e w' => e = .returned (.bool true) ∧ Drew w4 w' from fun A4 c4 w4 h1 h2 =>
        eqsl_any A4 A' _ c4 _ n' c' B' (patA p pl) q true hdec w4 (h1.arg (by unfold patA; rw [patL_length, nums_length]; omega) h1.cap (patA_small hp (e1.symm ▸ hok))) (hAtV.q.below h2))
      have HQ := hide (show ∀ w4, Below V.drew.heap.size V.drew w4 → w4.cell? ⟨bq, 0, none⟩ = some (.slice A' n' c') from fun w4 h => Boxed.cell (boxed_later hAtV.bq h))
      have HY := hide (show ∀ w4, Below V.drew.heap.size V.drew w4 → w4.cell? ⟨w.heap.size + 2, 0, none⟩ = some (.func (.yield l) #[] #[]) from fun w4 h => Boxed.cell (boxed_later hAtV.by_ h))
      have HCL := hide (show ∀ w5, Below V.drew.heap.size V.drew w5 → Calls Tryz.prog 62 #[.slice (some ⟨g, 0, none⟩) n' n'] w5 (GivesI w5 pl) from fun w5 h => clone_any (some ⟨g, 0, none⟩) n' n' _ pl w5 (hApl.below h))
      have HYL := hide (show ∀ (w5 w6 : World) (A6 : Option Addr) (c6 : Nat), Below V.heap.size V w5 → Below w5.heap.size w5 w6 → Ints w6 w5.heap.size (.slice A6 pl.length c6) pl → YieldAt Fence.wide 1 Tryz.prog l #[.slice A6 pl.length c6] w6 fun e V' => ∃ b : Bool, e = .returned (.bool b) ∧
          (b = true → (∀ r, Desk w2.heap.size r V → Desk w2.heap.size r V') ∧ (V.heap.size ≤ V'.heap.size ∧ V'.heap[g]? = V.heap[g]?) ∧ ∃ xs, (J xs V' ∧ xs.map (·.2) = (pre ++ [pl]).filter (fun pl => decide (patA p pl = q))) ∧ AtO A A' n c B n' c' B' p q bp bq (w.heap.size + 2) l V' ∧ AllIn p q xs) ∧
          (b = false → (∀ r, Desk w2.heap.size r V → Desk w2.heap.size r V') ∧ (V.heap.size ≤ V'.heap.size ∧ V'.heap[g]? = V.heap[g]?) ∧ ∃ xs, Jx xs V' ∧ AllIn p q xs) from fun w5 w6 A6 c6 h5 h6 hI => by
        have hin := unhide HIN pl hyes hpl hok
        have hk := (unhide HBD).1
        have hz5 := h5.size
        have hz6 := h6.size
        have hbs := hbU.size
        have hxl : xs.length < N := by
          have h1 := congrArg List.length hxs
          have h2 := List.length_filter_le (fun pl => decide (patA p pl = q)) pre
          rw [List.length_map] at h1
          omega
        have hV6 : Below V.heap.size V w6 := below_after h5 h6
        have hglt := hbuf.lt
        have hkeep : ∀ V', Keep P w6 V' → (∀ r, Desk w2.heap.size r V → Desk w2.heap.size r V') ∧ (V.heap.size ≤ V'.heap.size ∧ V'.heap[g]? = V.heap[g]?) := fun V' h =>
          ⟨fun r hd => h.desk (hd.later hV6) (hk.zone _ (by omega) (by omega)) (hk.zone _ (by omega) (by omega)), Nat.le_trans hV6.size h.size, (h.block g (by omega) (hk.zone _ (by omega) (by omega))).trans (hV6.block g hglt)⟩
        have hall2 : AllIn p q (xs ++ [(.slice A6 pl.length c6, pl)]) := fun x hx => by
          rcases List.mem_append.1 hx with h | h
          · exact hall x h
          · rw [List.mem_singleton.1 h]; exact hin
        refine (round_any rfl (hY xs (.slice A6 pl.length c6, pl) w5 w6 ((unhide HBD).2.1 _ _ _ hJV (But.of_below h5)) (by omega) h6 ⟨hI, hin⟩ hxl)).mono ?_
        rintro e V' (⟨rfl, h1, h2⟩ | ⟨rfl, h1, h2⟩)
        · refine ⟨true, rfl, fun _ => ⟨(hkeep V' h2).1, (hkeep V' h2).2, xs ++ [(.slice A6 pl.length c6, pl)], ⟨h1, by rw [List.map_append, hxs, List.filter_append]; simp [hyes]⟩, ?_, hall2⟩, fun h => (by cases h)⟩
          have h6 := hAtV0.below hV6
          exact ⟨arg_kept h6.p h2.size fun k hkk => h2.block k (by have := h6.p.under; omega) (hk.p k hkk), arg_kept h6.q h2.size fun k hkk => h2.block k (by have := h6.q.under; omega) (hk.q k hkk), h2.boxed h6.bp hk.bp, h2.boxed h6.bq hk.bq, h2.boxed h6.by_ (hk.zone _ (by omega) (by omega))⟩
        · exact ⟨false, rfl, fun h => (by cases h), fun _ => ⟨(hkeep V' h2).1, (hkeep V' h2).2, xs ++ [(.slice A6 pl.length c6, pl)], h1, hall2⟩⟩)
      have HG := hide (⟨hg, hs3⟩ : g = w2.heap.size + 2 ∧ w2.heap.size = w.heap.size + 5)
      clear hseq hAtU hAtV hAtV0 hApl hJU hJV hbuf hxs hall hyes hg hs3 hY hpl
      gi_wp2_with fail
      refine region_round l2 rfl (by kernel_rfl) hmx ?_
      change wpAnyIn _ _ _ _ _ _ _ _ _ (World.drew _)
--REGION-YES
      refine wpAnyIn_take (i := 1) (v := .slice (some ⟨g, 0, none⟩) n' n') rfl rfl (by kernel_rfl) (by kernel_rfl) (by kernel_rfl) (fun _ _ _ h => h) ⟨Or.inl ⟨by rfl, fun w => by go_simp⟩, fun _ => rfl⟩ ?_
      simp only [Act.put]
      refine wpAnyIn_ready (rs := [0, 3]) (by kernel_rfl) (by simp) ?_
      refine AllReadyIn.cons rfl (fun K hK => ?_) (AllReadyIn.cons rfl (fun K hK => ?_) (AllReadyIn.nil))
      · skip
        go_simp
        refine hK _ _ ?_
        clear hK K
        refine wpAnyIn_ready (rs := [2, 3]) (by kernel_rfl) (by simp) ?_
        refine AllReadyIn.cons rfl (fun K hK => ?_) (AllReadyIn.cons rfl (fun K hK => ?_) (AllReadyIn.nil))
        · skip
          go_simp
          refine ⟨trivial, ?_⟩
          refine (callsIn_wide.2 (unhide H1)).mono ?_
          rintro e w4 ⟨A4, c4, rfl, o4, d4⟩
          have hq4 := unhide HQ w4 d4
          have H3 := hide (unhide H2 A4 c4 w4 o4 d4)
          refine hK _ _ ?_
          clear hK K
          refine wpAnyIn_ready (rs := [3]) (by kernel_rfl) (by simp) ?_
          refine AllReadyIn.cons rfl (fun K hK => ?_) (AllReadyIn.nil)
          go_simp
          refine hK _ _ ?_
          clear hK K
          refine wpAnyIn_ready (rs := [4]) (by kernel_rfl) (by simp) ?_
          refine AllReadyIn.cons rfl (fun K hK => ?_) (AllReadyIn.nil)
          go_simp
          refine ⟨trivial, ?_⟩
          refine (callsIn_wide.2 (unhide H3)).mono ?_
          rintro e w5 ⟨rfl, d5⟩
          have hb5 := d4.trans (d5.below _)
          have hy5 := unhide HY w5 hb5
          have H4 := hide (unhide HCL w5 hb5)
          refine hK _ _ ?_
          clear hK K
          refine wpAnyIn_take (i := 5) (v := .bool true) rfl rfl (by kernel_rfl) (by kernel_rfl) (by kernel_rfl) (fun _ _ _ h => h) ⟨Or.inl ⟨by rfl, fun w => by go_simp⟩, fun _ => rfl⟩ ?_
          simp only [Act.put]
          refine wpAnyIn_take (i := 7) (v := .slice (some ⟨g, 0, none⟩) n' n') rfl rfl (by kernel_rfl) (by kernel_rfl) (by kernel_rfl) (fun _ _ _ h => h) ⟨Or.inl ⟨by rfl, fun w => by go_simp⟩, fun _ => rfl⟩ ?_
          simp only [Act.put]
          refine wpAnyIn_ready (rs := [6, 8]) (by kernel_rfl) (by simp) ?_
          refine AllReadyIn.cons rfl (fun K hK => ?_) (AllReadyIn.cons rfl (fun K hK => ?_) (AllReadyIn.nil))
          · skip
            go_simp
            refine hK _ _ ?_
            clear hK K
            refine wpAnyIn_ready (rs := [8]) (by kernel_rfl) (by simp) ?_
            refine AllReadyIn.cons rfl (fun K hK => ?_) (AllReadyIn.nil)
            go_simp
            refine ⟨trivial, ?_⟩
            refine (callsIn_wide.2 (unhide H4)).mono ?_
            rintro e w6 ⟨A6, c6, rfl, o6, d6⟩
            have hy6 := unhide HY w6 (below_after hb5 d6)
            obtain ⟨fn, tmps, assign, body, hy, hR⟩ := unhide HYL w5 w6 A6 c6 ((below_drew V.heap.size V).trans hb5) d6 o6
            refine hK _ _ ?_
            clear hK K
            refine wpAnyIn_ready (rs := [9]) (by kernel_rfl) (by simp) ?_
            refine AllReadyIn.cons rfl (fun K hK => ?_) (AllReadyIn.nil)
            go_simp
            refine hR.mono ?_
            rintro e w7 ⟨b, rfl, ht, hf⟩
            refine hK _ _ ?_
            clear hK K
            refine wpAnyIn_take (i := 10) (v := .bool (!b)) rfl rfl (by kernel_rfl) (by kernel_rfl) (by kernel_rfl) (fun _ _ _ h => h) ⟨Or.inl ⟨by rfl, fun w => by go_simp⟩, fun _ => rfl⟩ ?_
            simp only [Act.put]
            refine wpAnyIn_take (i := 11) (v := .bool (!b)) rfl rfl (by kernel_rfl) (by kernel_rfl) (by kernel_rfl) (fun _ _ _ h => h) ⟨Or.inl ⟨by rfl, fun w => by go_simp⟩, fun _ => rfl⟩ ?_
            simp only [Act.put]
            refine wpAnyIn_done (by kernel_rfl) ?_ _
            cases b with
            | true =>
              have hend := ht rfl
              clear ht hf hR hy
              gi_wp2
              exact hend
            | false =>
              have hend := hf rfl
              clear ht hf hR hy
              gi_wp2
              exact ⟨hend.1, hend.2.1, rfl, hend.2.2⟩
          · skip
            go_simp
            refine ⟨trivial, ?_⟩
            refine (callsIn_wide.2 (unhide H4)).mono ?_
            rintro e w6 ⟨A6, c6, rfl, o6, d6⟩
            have hy6 := unhide HY w6 (below_after hb5 d6)
            obtain ⟨fn, tmps, assign, body, hy, hR⟩ := unhide HYL w5 w6 A6 c6 ((below_drew V.heap.size V).trans hb5) d6 o6
            refine hK _ _ ?_
            clear hK K
            refine wpAnyIn_ready (rs := [6]) (by kernel_rfl) (by simp) ?_
            refine AllReadyIn.cons rfl (fun K hK => ?_) (AllReadyIn.nil)
            go_simp
            refine hK _ _ ?_
            clear hK K
            refine wpAnyIn_ready (rs := [9]) (by kernel_rfl) (by simp) ?_
            refine AllReadyIn.cons rfl (fun K hK => ?_) (AllReadyIn.nil)
            go_simp
            refine hR.mono ?_
            rintro e w7 ⟨b, rfl, ht, hf⟩
            refine hK _ _ ?_
            clear hK K
            refine wpAnyIn_take (i := 10) (v := .bool (!b)) rfl rfl (by kernel_rfl) (by kernel_rfl) (by kernel_rfl) (fun _ _ _ h => h) ⟨Or.inl ⟨by rfl, fun w => by go_simp⟩, fun _ => rfl⟩ ?_
            simp only [Act.put]
            refine wpAnyIn_take (i := 11) (v := .bool (!b)) rfl rfl (by kernel_rfl) (by kernel_rfl) (by kernel_rfl) (fun _ _ _ h => h) ⟨Or.inl ⟨by rfl, fun w => by go_simp⟩, fun _ => rfl⟩ ?_
            simp only [Act.put]
            refine wpAnyIn_done (by kernel_rfl) ?_ _
            cases b with
            | true =>
              have hend := ht rfl
              clear ht hf hR hy
              gi_wp2
              exact hend
            | false =>
              have hend := hf rfl
              clear ht hf hR hy
              gi_wp2
              exact ⟨hend.1, hend.2.1, rfl, hend.2.2⟩
        · skip
          go_simp
          refine hK _ _ ?_
          clear hK K
          refine wpAnyIn_ready (rs := [2]) (by kernel_rfl) (by simp) ?_
          refine AllReadyIn.cons rfl (fun K hK => ?_) (AllReadyIn.nil)
          go_simp
          refine ⟨trivial, ?_⟩
          refine (callsIn_wide.2 (unhide H1)).mono ?_
          rintro e w4 ⟨A4, c4, rfl, o4, d4⟩
          have hq4 := unhide HQ w4 d4
          have H3 := hide (unhide H2 A4 c4 w4 o4 d4)
          refine hK _ _ ?_
          clear hK K
          refine wpAnyIn_ready (rs := [4]) (by kernel_rfl) (by simp) ?_
          refine AllReadyIn.cons rfl (fun K hK => ?_) (AllReadyIn.nil)
          go_simp
          refine ⟨trivial, ?_⟩
          refine (callsIn_wide.2 (unhide H3)).mono ?_
          rintro e w5 ⟨rfl, d5⟩
          have hb5 := d4.trans (d5.below _)
          have hy5 := unhide HY w5 hb5
          have H4 := hide (unhide HCL w5 hb5)
          refine hK _ _ ?_
          clear hK K
          refine wpAnyIn_take (i := 5) (v := .bool true) rfl rfl (by kernel_rfl) (by kernel_rfl) (by kernel_rfl) (fun _ _ _ h => h) ⟨Or.inl ⟨by rfl, fun w => by go_simp⟩, fun _ => rfl⟩ ?_
          simp only [Act.put]
          refine wpAnyIn_take (i := 7) (v := .slice (some ⟨g, 0, none⟩) n' n') rfl rfl (by kernel_rfl) (by kernel_rfl) (by kernel_rfl) (fun _ _ _ h => h) ⟨Or.inl ⟨by rfl, fun w => by go_simp⟩, fun _ => rfl⟩ ?_
          simp only [Act.put]
          refine wpAnyIn_ready (rs := [6, 8]) (by kernel_rfl) (by simp) ?_
          refine AllReadyIn.cons rfl (fun K hK => ?_) (AllReadyIn.cons rfl (fun K hK => ?_) (AllReadyIn.nil))
          · skip
            go_simp
            refine hK _ _ ?_
            clear hK K
            refine wpAnyIn_ready (rs := [8]) (by kernel_rfl) (by simp) ?_
            refine AllReadyIn.cons rfl (fun K hK => ?_) (AllReadyIn.nil)
            go_simp
            refine ⟨trivial, ?_⟩
            refine (callsIn_wide.2 (unhide H4)).mono ?_
            rintro e w6 ⟨A6, c6, rfl, o6, d6⟩
            have hy6 := unhide HY w6 (below_after hb5 d6)
            obtain ⟨fn, tmps, assign, body, hy, hR⟩ := unhide HYL w5 w6 A6 c6 ((below_drew V.heap.size V).trans hb5) d6 o6
            refine hK _ _ ?_
            clear hK K
            refine wpAnyIn_ready (rs := [9]) (by kernel_rfl) (by simp) ?_
            refine AllReadyIn.cons rfl (fun K hK => ?_) (AllReadyIn.nil)
            go_simp
            refine hR.mono ?_
            rintro e w7 ⟨b, rfl, ht, hf⟩
            refine hK _ _ ?_
            clear hK K
            refine wpAnyIn_take (i := 10) (v := .bool (!b)) rfl rfl (by kernel_rfl) (by kernel_rfl) (by kernel_rfl) (fun _ _ _ h => h) ⟨Or.inl ⟨by rfl, fun w => by go_simp⟩, fun _ => rfl⟩ ?_
            simp only [Act.put]
            refine wpAnyIn_take (i := 11) (v := .bool (!b)) rfl rfl (by kernel_rfl) (by kernel_rfl) (by kernel_rfl) (fun _ _ _ h => h) ⟨Or.inl ⟨by rfl, fun w => by go_simp⟩, fun _ => rfl⟩ ?_
            simp only [Act.put]
            refine wpAnyIn_done (by kernel_rfl) ?_ _
            cases b with
            | true =>
              have hend := ht rfl
              clear ht hf hR hy
              gi_wp2
              exact hend
            | false =>
              have hend := hf rfl
              clear ht hf hR hy
              gi_wp2
              exact ⟨hend.1, hend.2.1, rfl, hend.2.2⟩
          · skip
            go_simp
            refine ⟨trivial, ?_⟩
            refine (callsIn_wide.2 (unhide H4)).mono ?_
            rintro e w6 ⟨A6, c6, rfl, o6, d6⟩
            have hy6 := unhide HY w6 (below_after hb5 d6)
            obtain ⟨fn, tmps, assign, body, hy, hR⟩ := unhide HYL w5 w6 A6 c6 ((below_drew V.heap.size V).trans hb5) d6 o6
            refine hK _ _ ?_
            clear hK K
            refine wpAnyIn_ready (rs := [6]) (by kernel_rfl) (by simp) ?_
            refine AllReadyIn.cons rfl (fun K hK => ?_) (AllReadyIn.nil)
            go_simp
            refine hK _ _ ?_
            clear hK K
            refine wpAnyIn_ready (rs := [9]) (by kernel_rfl) (by simp) ?_
            refine AllReadyIn.cons rfl (fun K hK => ?_) (AllReadyIn.nil)
            go_simp
            refine hR.mono ?_
            rintro e w7 ⟨b, rfl, ht, hf⟩
            refine hK _ _ ?_
            clear hK K
            refine wpAnyIn_take (i := 10) (v := .bool (!b)) rfl rfl (by kernel_rfl) (by kernel_rfl) (by kernel_rfl) (fun _ _ _ h => h) ⟨Or.inl ⟨by rfl, fun w => by go_simp⟩, fun _ => rfl⟩ ?_
            simp only [Act.put]
            refine wpAnyIn_take (i := 11) (v := .bool (!b)) rfl rfl (by kernel_rfl) (by kernel_rfl) (by kernel_rfl) (fun _ _ _ h => h) ⟨Or.inl ⟨by rfl, fun w => by go_simp⟩, fun _ => rfl⟩ ?_
            simp only [Act.put]
            refine wpAnyIn_done (by kernel_rfl) ?_ _
            cases b with
            | true =>
              have hend := ht rfl
              clear ht hf hR hy
              gi_wp2
              exact hend
            | false =>
              have hend := hf rfl
              clear ht hf hR hy
              gi_wp2
              exact ⟨hend.1, hend.2.1, rfl, hend.2.2⟩
      · skip
        go_simp
        refine hK _ _ ?_
        clear hK K
        refine wpAnyIn_ready (rs := [0]) (by kernel_rfl) (by simp) ?_
        refine AllReadyIn.cons rfl (fun K hK => ?_) (AllReadyIn.nil)
        go_simp
        refine hK _ _ ?_
        clear hK K
        refine wpAnyIn_ready (rs := [2]) (by kernel_rfl) (by simp) ?_
        refine AllReadyIn.cons rfl (fun K hK => ?_) (AllReadyIn.nil)
        go_simp
        refine ⟨trivial, ?_⟩
        refine (callsIn_wide.2 (unhide H1)).mono ?_
        rintro e w4 ⟨A4, c4, rfl, o4, d4⟩
        have hq4 := unhide HQ w4 d4
        have H3 := hide (unhide H2 A4 c4 w4 o4 d4)
        refine hK _ _ ?_
        clear hK K
        refine wpAnyIn_ready (rs := [4]) (by kernel_rfl) (by simp) ?_
        refine AllReadyIn.cons rfl (fun K hK => ?_) (AllReadyIn.nil)
        go_simp
        refine ⟨trivial, ?_⟩
        refine (callsIn_wide.2 (unhide H3)).mono ?_
        rintro e w5 ⟨rfl, d5⟩
        have hb5 := d4.trans (d5.below _)
        have hy5 := unhide HY w5 hb5
        have H4 := hide (unhide HCL w5 hb5)
        refine hK _ _ ?_
        clear hK K
        refine wpAnyIn_take (i := 5) (v := .bool true) rfl rfl (by kernel_rfl) (by kernel_rfl) (by kernel_rfl) (fun _ _ _ h => h) ⟨Or.inl ⟨by rfl, fun w => by go_simp⟩, fun _ => rfl⟩ ?_
        simp only [Act.put]
        refine wpAnyIn_take (i := 7) (v := .slice (some ⟨g, 0, none⟩) n' n') rfl rfl (by kernel_rfl) (by kernel_rfl) (by kernel_rfl) (fun _ _ _ h => h) ⟨Or.inl ⟨by rfl, fun w => by go_simp⟩, fun _ => rfl⟩ ?_
        simp only [Act.put]
        refine wpAnyIn_ready (rs := [6, 8]) (by kernel_rfl) (by simp) ?_
        refine AllReadyIn.cons rfl (fun K hK => ?_) (AllReadyIn.cons rfl (fun K hK => ?_) (AllReadyIn.nil))
        · skip
          go_simp
          refine hK _ _ ?_
          clear hK K
          refine wpAnyIn_ready (rs := [8]) (by kernel_rfl) (by simp) ?_
          refine AllReadyIn.cons rfl (fun K hK => ?_) (AllReadyIn.nil)
          go_simp
          refine ⟨trivial, ?_⟩
          refine (callsIn_wide.2 (unhide H4)).mono ?_
          rintro e w6 ⟨A6, c6, rfl, o6, d6⟩
          have hy6 := unhide HY w6 (below_after hb5 d6)
          obtain ⟨fn, tmps, assign, body, hy, hR⟩ := unhide HYL w5 w6 A6 c6 ((below_drew V.heap.size V).trans hb5) d6 o6
          refine hK _ _ ?_
          clear hK K
          refine wpAnyIn_ready (rs := [9]) (by kernel_rfl) (by simp) ?_
          refine AllReadyIn.cons rfl (fun K hK => ?_) (AllReadyIn.nil)
          go_simp
          refine hR.mono ?_
          rintro e w7 ⟨b, rfl, ht, hf⟩
          refine hK _ _ ?_
          clear hK K
          refine wpAnyIn_take (i := 10) (v := .bool (!b)) rfl rfl (by kernel_rfl) (by kernel_rfl) (by kernel_rfl) (fun _ _ _ h => h) ⟨Or.inl ⟨by rfl, fun w => by go_simp⟩, fun _ => rfl⟩ ?_
          simp only [Act.put]
          refine wpAnyIn_take (i := 11) (v := .bool (!b)) rfl rfl (by kernel_rfl) (by kernel_rfl) (by kernel_rfl) (fun _ _ _ h => h) ⟨Or.inl ⟨by rfl, fun w => by go_simp⟩, fun _ => rfl⟩ ?_
          simp only [Act.put]
          refine wpAnyIn_done (by kernel_rfl) ?_ _
          cases b with
          | true =>
            have hend := ht rfl
            clear ht hf hR hy
            gi_wp2
            exact hend
          | false =>
            have hend := hf rfl
            clear ht hf hR hy
            gi_wp2
            exact ⟨hend.1, hend.2.1, rfl, hend.2.2⟩
        · skip
          go_simp
          refine ⟨trivial, ?_⟩
          refine (callsIn_wide.2 (unhide H4)).mono ?_
          rintro e w6 ⟨A6, c6, rfl, o6, d6⟩
          have hy6 := unhide HY w6 (below_after hb5 d6)
          obtain ⟨fn, tmps, assign, body, hy, hR⟩ := unhide HYL w5 w6 A6 c6 ((below_drew V.heap.size V).trans hb5) d6 o6
          refine hK _ _ ?_
          clear hK K
          refine wpAnyIn_ready (rs := [6]) (by kernel_rfl) (by simp) ?_
          refine AllReadyIn.cons rfl (fun K hK => ?_) (AllReadyIn.nil)
          go_simp
          refine hK _ _ ?_
          clear hK K
          refine wpAnyIn_ready (rs := [9]) (by kernel_rfl) (by simp) ?_
          refine AllReadyIn.cons rfl (fun K hK => ?_) (AllReadyIn.nil)
          go_simp
          refine hR.mono ?_
          rintro e w7 ⟨b, rfl, ht, hf⟩
          refine hK _ _ ?_
          clear hK K
          refine wpAnyIn_take (i := 10) (v := .bool (!b)) rfl rfl (by kernel_rfl) (by kernel_rfl) (by kernel_rfl) (fun _ _ _ h => h) ⟨Or.inl ⟨by rfl, fun w => by go_simp⟩, fun _ => rfl⟩ ?_
          simp only [Act.put]
          refine wpAnyIn_take (i := 11) (v := .bool (!b)) rfl rfl (by kernel_rfl) (by kernel_rfl) (by kernel_rfl) (fun _ _ _ h => h) ⟨Or.inl ⟨by rfl, fun w => by go_simp⟩, fun _ => rfl⟩ ?_
          simp only [Act.put]
          refine wpAnyIn_done (by kernel_rfl) ?_ _
          cases b with
          | true =>
            have hend := ht rfl
            clear ht hf hR hy
            gi_wp2
            exact hend
          | false =>
            have hend := hf rfl
            clear ht hf hR hy
            gi_wp2
            exact ⟨hend.1, hend.2.1, rfl, hend.2.2⟩
--END-YES
    · have hdec : decide (patA p pl = q) = false := by simpa using hyes
      have H2 := hide (show ∀ (A4 : Option Addr) (c4 : Nat) (w4 : World), Ints w4 V.drew.heap.size (.slice A4 (patA p pl).length c4) (patA p pl) → Below V.drew.heap.size V.drew w4 → Calls Tryz.prog 106 #[.slice A4 (patA p pl).length c4, .slice A' n' c'] w4 fun e w' => e = .returned (.bool false) ∧ Drew w4 w' from fun A4 c4 w4 h1 h2 =>
        eqsl_any A4 A' _ c4 _ n' c' B' (patA p pl) q false hdec w4 (h1.arg (by unfold patA; rw [patL_length, nums_length]; omega) h1.cap (patA_small hp (e1.symm ▸ hok))) (hAtV.q.below h2))
      have HQ := hide (show ∀ w4, Below V.drew.heap.size V.drew w4 → w4.cell? ⟨bq, 0, none⟩ = some (.slice A' n' c') from fun w4 h => Boxed.cell (boxed_later hAtV.bq h))
      have HEND := hide (show ∀ w5, Below V.heap.size V w5 → (∀ r, Desk w2.heap.size r V → Desk w2.heap.size r w5) ∧ (V.heap.size ≤ w5.heap.size ∧ w5.heap[g]? = V.heap[g]?) ∧ ∃ xs, (J xs w5 ∧ xs.map (·.2) = (pre ++ [pl]).filter (fun pl => decide (patA p pl = q))) ∧ AtO A A' n c B n' c' B' p q bp bq (w.heap.size + 2) l w5 ∧ AllIn p q xs from fun w5 h =>
        ⟨fun r hd => hd.later h, ⟨h.size, h.block g hbuf.lt⟩, ⟨xs, ⟨(unhide HBD).2.1 _ _ _ hJV (But.of_below h), by rw [List.filter_append, hxs]; simp [hyes]⟩, hAtV0.below h, hall⟩⟩)
      have HG := hide (⟨hg, hs3⟩ : g = w2.heap.size + 2 ∧ w2.heap.size = w.heap.size + 5)
      clear hseq hAtU hAtV hAtV0 hApl hJU hJV hbuf hxs hall hyes hg hs3
      gi_wp2_with fail
      refine region_round l2 rfl (by kernel_rfl) hmx ?_
      change wpAnyIn _ _ _ _ _ _ _ _ _ (World.drew _)
--REGION-NO
      refine wpAnyIn_take (i := 1) (v := .slice (some ⟨g, 0, none⟩) n' n') rfl rfl (by kernel_rfl) (by kernel_rfl) (by kernel_rfl) (fun _ _ _ h => h) ⟨Or.inl ⟨by rfl, fun w => by go_simp⟩, fun _ => rfl⟩ ?_
      simp only [Act.put]
      refine wpAnyIn_ready (rs := [0, 3]) (by kernel_rfl) (by simp) ?_
      refine AllReadyIn.cons rfl (fun K hK => ?_) (AllReadyIn.cons rfl (fun K hK => ?_) (AllReadyIn.nil))
      · skip
        go_simp
        refine hK _ _ ?_
        clear hK K
        refine wpAnyIn_ready (rs := [2, 3]) (by kernel_rfl) (by simp) ?_
        refine AllReadyIn.cons rfl (fun K hK => ?_) (AllReadyIn.cons rfl (fun K hK => ?_) (AllReadyIn.nil))
        · skip
          go_simp
          refine ⟨trivial, ?_⟩
          refine (callsIn_wide.2 (unhide H1)).mono ?_
          rintro e w4 ⟨A4, c4, rfl, o4, d4⟩
          have hq4 := unhide HQ w4 d4
          have H3 := hide (unhide H2 A4 c4 w4 o4 d4)
          refine hK _ _ ?_
          clear hK K
          refine wpAnyIn_ready (rs := [3]) (by kernel_rfl) (by simp) ?_
          refine AllReadyIn.cons rfl (fun K hK => ?_) (AllReadyIn.nil)
          go_simp
          refine hK _ _ ?_
          clear hK K
          refine wpAnyIn_ready (rs := [4]) (by kernel_rfl) (by simp) ?_
          refine AllReadyIn.cons rfl (fun K hK => ?_) (AllReadyIn.nil)
          go_simp
          refine ⟨trivial, ?_⟩
          refine (callsIn_wide.2 (unhide H3)).mono ?_
          rintro e w5 ⟨rfl, d5⟩
          refine hK _ _ ?_
          clear hK K
          refine wpAnyIn_take (i := 5) (v := .bool false) rfl rfl (by kernel_rfl) (by kernel_rfl) (by kernel_rfl) (fun _ _ _ h => h) ⟨Or.inl ⟨by rfl, fun w => by go_simp⟩, fun _ => rfl⟩ ?_
          simp only [Act.put]
          refine wpAnyIn_take (i := 6) (v := undef) rfl rfl (by kernel_rfl) (by kernel_rfl) (by kernel_rfl) (fun _ _ _ h => h) ⟨Or.inr ⟨by rfl, rfl⟩, fun _ => rfl⟩ ?_
          simp only [Act.put]
          refine wpAnyIn_take (i := 7) (v := undef) rfl rfl (by kernel_rfl) (by kernel_rfl) (by kernel_rfl) (fun _ _ _ h => h) ⟨Or.inr ⟨by rfl, rfl⟩, fun _ => rfl⟩ ?_
          simp only [Act.put]
          refine wpAnyIn_ready (rs := [8]) (by kernel_rfl) (by simp) ?_
          refine AllReadyIn.cons rfl (fun K hK => ?_) (AllReadyIn.nil)
          go_simp
          refine ⟨trivial, hK _ _ ?_⟩
          clear hK K
          refine wpAnyIn_ready (rs := [9]) (by kernel_rfl) (by simp) ?_
          refine AllReadyIn.cons rfl (fun K hK => ?_) (AllReadyIn.nil)
          go_simp
          first | refine hK _ _ ?_ | refine ⟨fun _ h => (by cases h), hK _ _ ?_⟩
          clear hK K
          refine wpAnyIn_ready (rs := [10]) (by kernel_rfl) (by simp) ?_
          refine AllReadyIn.cons rfl (fun K hK => ?_) (AllReadyIn.nil)
          go_simp
          refine hK _ _ ?_
          clear hK K
          refine wpAnyIn_take (i := 11) (v := .bool false) rfl rfl (by kernel_rfl) (by kernel_rfl) (by kernel_rfl) (fun _ _ _ h => h) ⟨Or.inl ⟨by rfl, fun w => by go_simp⟩, fun _ => rfl⟩ ?_
          simp only [Act.put]
          refine wpAnyIn_done (by kernel_rfl) ?_ _
          have hend := unhide HEND w5 (((below_drew V.heap.size V).trans d4).trans (d5.below _))
          gi_wp2
          exact hend
        · skip
          go_simp
          refine hK _ _ ?_
          clear hK K
          refine wpAnyIn_ready (rs := [2]) (by kernel_rfl) (by simp) ?_
          refine AllReadyIn.cons rfl (fun K hK => ?_) (AllReadyIn.nil)
          go_simp
          refine ⟨trivial, ?_⟩
          refine (callsIn_wide.2 (unhide H1)).mono ?_
          rintro e w4 ⟨A4, c4, rfl, o4, d4⟩
          have hq4 := unhide HQ w4 d4
          have H3 := hide (unhide H2 A4 c4 w4 o4 d4)
          refine hK _ _ ?_
          clear hK K
          refine wpAnyIn_ready (rs := [4]) (by kernel_rfl) (by simp) ?_
          refine AllReadyIn.cons rfl (fun K hK => ?_) (AllReadyIn.nil)
          go_simp
          refine ⟨trivial, ?_⟩
          refine (callsIn_wide.2 (unhide H3)).mono ?_
          rintro e w5 ⟨rfl, d5⟩
          refine hK _ _ ?_
          clear hK K
          refine wpAnyIn_take (i := 5) (v := .bool false) rfl rfl (by kernel_rfl) (by kernel_rfl) (by kernel_rfl) (fun _ _ _ h => h) ⟨Or.inl ⟨by rfl, fun w => by go_simp⟩, fun _ => rfl⟩ ?_
          simp only [Act.put]
          refine wpAnyIn_take (i := 6) (v := undef) rfl rfl (by kernel_rfl) (by kernel_rfl) (by kernel_rfl) (fun _ _ _ h => h) ⟨Or.inr ⟨by rfl, rfl⟩, fun _ => rfl⟩ ?_
          simp only [Act.put]
          refine wpAnyIn_take (i := 7) (v := undef) rfl rfl (by kernel_rfl) (by kernel_rfl) (by kernel_rfl) (fun _ _ _ h => h) ⟨Or.inr ⟨by rfl, rfl⟩, fun _ => rfl⟩ ?_
          simp only [Act.put]
          refine wpAnyIn_ready (rs := [8]) (by kernel_rfl) (by simp) ?_
          refine AllReadyIn.cons rfl (fun K hK => ?_) (AllReadyIn.nil)
          go_simp
          refine ⟨trivial, hK _ _ ?_⟩
          clear hK K
          refine wpAnyIn_ready (rs := [9]) (by kernel_rfl) (by simp) ?_
          refine AllReadyIn.cons rfl (fun K hK => ?_) (AllReadyIn.nil)
          go_simp
          first | refine hK _ _ ?_ | refine ⟨fun _ h => (by cases h), hK _ _ ?_⟩
          clear hK K
          refine wpAnyIn_ready (rs := [10]) (by kernel_rfl) (by simp) ?_
          refine AllReadyIn.cons rfl (fun K hK => ?_) (AllReadyIn.nil)
          go_simp
          refine hK _ _ ?_
          clear hK K
          refine wpAnyIn_take (i := 11) (v := .bool false) rfl rfl (by kernel_rfl) (by kernel_rfl) (by kernel_rfl) (fun _ _ _ h => h) ⟨Or.inl ⟨by rfl, fun w => by go_simp⟩, fun _ => rfl⟩ ?_
          simp only [Act.put]
          refine wpAnyIn_done (by kernel_rfl) ?_ _
          have hend := unhide HEND w5 (((below_drew V.heap.size V).trans d4).trans (d5.below _))
          gi_wp2
          exact hend
      · skip
        go_simp
        refine hK _ _ ?_
        clear hK K
        refine wpAnyIn_ready (rs := [0]) (by kernel_rfl) (by simp) ?_
        refine AllReadyIn.cons rfl (fun K hK => ?_) (AllReadyIn.nil)
        go_simp
        refine hK _ _ ?_
        clear hK K
        refine wpAnyIn_ready (rs := [2]) (by kernel_rfl) (by simp) ?_
        refine AllReadyIn.cons rfl (fun K hK => ?_) (AllReadyIn.nil)
        go_simp
        refine ⟨trivial, ?_⟩
        refine (callsIn_wide.2 (unhide H1)).mono ?_
        rintro e w4 ⟨A4, c4, rfl, o4, d4⟩
        have hq4 := unhide HQ w4 d4
        have H3 := hide (unhide H2 A4 c4 w4 o4 d4)
        refine hK _ _ ?_
        clear hK K
        refine wpAnyIn_ready (rs := [4]) (by kernel_rfl) (by simp) ?_
        refine AllReadyIn.cons rfl (fun K hK => ?_) (AllReadyIn.nil)
        go_simp
        refine ⟨trivial, ?_⟩
        refine (callsIn_wide.2 (unhide H3)).mono ?_
        rintro e w5 ⟨rfl, d5⟩
        refine hK _ _ ?_
        clear hK K
        refine wpAnyIn_take (i := 5) (v := .bool false) rfl rfl (by kernel_rfl) (by kernel_rfl) (by kernel_rfl) (fun _ _ _ h => h) ⟨Or.inl ⟨by rfl, fun w => by go_simp⟩, fun _ => rfl⟩ ?_
        simp only [Act.put]
        refine wpAnyIn_take (i := 6) (v := undef) rfl rfl (by kernel_rfl) (by kernel_rfl) (by kernel_rfl) (fun _ _ _ h => h) ⟨Or.inr ⟨by rfl, rfl⟩, fun _ => rfl⟩ ?_
        simp only [Act.put]
        refine wpAnyIn_take (i := 7) (v := undef) rfl rfl (by kernel_rfl) (by kernel_rfl) (by kernel_rfl) (fun _ _ _ h => h) ⟨Or.inr ⟨by rfl, rfl⟩, fun _ => rfl⟩ ?_
        simp only [Act.put]
        refine wpAnyIn_ready (rs := [8]) (by kernel_rfl) (by simp) ?_
        refine AllReadyIn.cons rfl (fun K hK => ?_) (AllReadyIn.nil)
        go_simp
        refine ⟨trivial, hK _ _ ?_⟩
        clear hK K
        refine wpAnyIn_ready (rs := [9]) (by kernel_rfl) (by simp) ?_
        refine AllReadyIn.cons rfl (fun K hK => ?_) (AllReadyIn.nil)
        go_simp
        first | refine hK _ _ ?_ | refine ⟨fun _ h => (by cases h), hK _ _ ?_⟩
        clear hK K
        refine wpAnyIn_ready (rs := [10]) (by kernel_rfl) (by simp) ?_
        refine AllReadyIn.cons rfl (fun K hK => ?_) (AllReadyIn.nil)
        go_simp
        refine hK _ _ ?_
        clear hK K
        refine wpAnyIn_take (i := 11) (v := .bool false) rfl rfl (by kernel_rfl) (by kernel_rfl) (by kernel_rfl) (fun _ _ _ h => h) ⟨Or.inl ⟨by rfl, fun w => by go_simp⟩, fun _ => rfl⟩ ?_
        simp only [Act.put]
        refine wpAnyIn_done (by kernel_rfl) ?_ _
        have hend := unhide HEND w5 (((below_drew V.heap.size V).trans d4).trans (d5.below _))
        gi_wp2
        exact hend
--END-NO
  case done =>
    rintro pls V rfl ⟨xs, ⟨hJV, hxs⟩, hAtV, hall⟩ hK
    rw [← e1, ← e2, unhide HFI] at hxs
    have hJD := (unhide HBD).2.1 _ _ _ hJV (But.putObj V (k := w2.heap.size) (by omega) (by omega) (.deferred none))
    gi_wp2
    refine ⟨by simp, .inl ⟨_, _, rfl, run_takeDeferred hK, ?_⟩⟩
    refine ⟨_, results_none rfl _ _ _, ?_⟩
    exact ⟨⟨_, rfl⟩, .inl ⟨xs, hxs, hJD⟩⟩
  case stop =>
    rintro c pre V _ ⟨rfl, xs, hJV, hall⟩ hK
    have hJD := (unhide HBD).2.2 _ _ _ hJV (But.putObj V (k := w2.heap.size) (by omega) (by omega) (.deferred none))
    gi_wp2
    refine ⟨by simp, .inl ⟨_, _, rfl, run_takeDeferred hK, ?_⟩⟩
    refine ⟨_, results_none rfl _ _ _, ?_⟩
    exact ⟨⟨_, rfl⟩, .inr ⟨xs, hall, hJD⟩⟩
end Go.Proofs.YtoiipedomgefaaaGreatDoor


/-
  'list = append(list, row)' inside a fence (a round of a range over a function): row was made since world w0.
-/

namespace Go.Proofs.YtoiipedomgefaaaGreatDoor
set_option maxRecDepth 100000
open Go.RowKit

theorem wpListIn_push_row {F : Fence} {nF : Nat} {ops : Array Oper} {rest : List Oper} {o : Oper} {a : Act} {W : World} {Q : Exit → Act → World → Prop} (hgd : o.guard = none) (sl x : Operand)
    (ho : o.op = .call { callee := .builtin .append, args := #[sl, x], argTypes := #[24, 24] })
    (base : Nat) (w0 wr : World) (v u : Value) (zss : List (List Int)) (zs : List Int) (hs : a.eval sl = v) (hx : a.eval x = .slice (some ⟨wr.heap.size, 0, none⟩) 1 1) (hW : W = wr.alloc (.cells #[u] 36))
    (hS : IntsS w0 base v zss) (hb0 : Below w0.heap.size w0 wr) (hu : Ints wr w0.heap.size u zs) (hn : zss.length ≤ 1048576) (hbase : base ≤ w0.heap.size)
    (K : ∀ v' w', IntsS w' base v' (zss ++ [zs]) → Below base wr w' → KeepI wr w' → (v'.ownBlock = v.ownBlock ∨ v'.ownBlock = some W.heap.size) → W.grownBy w' v.ownBlock → wpListIn F nF Tryz.prog ops Q rest (a.put o.dst v') w') : wpListIn F nF Tryz.prog ops Q (o :: rest) a W := by
  obtain ⟨i0, hi, hz0, hz1, hz2⟩ := info_parts rowsInfo
  obtain ⟨vs, hown, hin⟩ := hS
  have hown1 := own_below hown hb0
  have hal := (Below.refl wr.heap.size wr).alloc (Nat.le_refl _) (.cells #[u] 36)
  have hown2 := own_below hown1 hal
  obtain ⟨A1, c1, rfl⟩ := hu.slice
  subst hW
  refine wpListIn_append_own_at _ hgd sl x 24 ho base 36 i0 (.slice none 0 0) 1 24 Tryz.underlying24 hi hz0 hz1 hz2 rfl (by decide) v _ _ hs hown2 ⟨wr.heap.size, 0, none⟩ 1 1 [.slice A1 zs.length c1] hx rfl ?_ ?_ (by unfold maxLen; omega) (by omega) (by simp; have := hb0.size; omega) ?_
  · intro j u hj
    match j, hj with
    | 0, hj => simp at hj; subst hj; simp [Addr.add]
  · intro y hy
    obtain rfl := List.mem_singleton.1 hy
    rfl
  · intro v' w' h1 h2 _ h4
    have hk := (KeepI.of_below hal).trans (KeepI.of_grown hown2 h2)
    refine K v' w' ⟨vs ++ [.slice A1 zs.length c1], by rw [List.length_append]; exact h1, ?_⟩ ?_ hk h4 h2
    · exact ((hin.keepI (KeepI.of_below hb0)).keepI hk).push ((hu.low hbase).keepI hk) (hin.away_new hu.since (Nat.le_refl _))
    · exact ((Below.refl base wr).alloc (Nat.le_trans hbase hb0.size) _).grown h2 (by simp; have := hb0.size; omega) (fun k hk => (hown.lt k hk).1)
end Go.Proofs.YtoiipedomgefaaaGreatDoor


/-
  slices.AppendSeq, slices.Collect over the iterator of impl.occurrences; impl.OccurrencesOf, impl.CountPattern.
-/

namespace Go.Proofs.YtoiipedomgefaaaGreatDoor
set_option maxRecDepth 100000
open Go.RowKit Go.Shelf
attribute [local go_sem] Oper.semAt_some

theorem chR_room_all : ∀ n, n < 9 → ∀ k, k < 9 → (chR n k).length ≤ 256 := by decide +kernel
theorem chR_room {n k : Nat} (hn : n ≤ 8) (hk : k ≤ 8) : (chR n k).length ≤ 256 := chR_room_all n (by omega) k (by omega)
theorem intsS_stored {W : World} {D b : Nat} {v : Value} {zss : List (List Int)} (h : IntsS W D v zss) (hb : b < D) (x : Value) : IntsS (W.setCell ⟨b, 0, none⟩ x) D v zss := h.but (But.setCell W (Nat.le_refl b) (Nat.lt_succ_self b) x) hb
end Go.Proofs.YtoiipedomgefaaaGreatDoor


/-
  impl.HasPattern: a loop over the occurrences that ends at the first one.
-/

namespace Go.Proofs.YtoiipedomgefaaaGreatDoor
set_option maxRecDepth 100000
open Go.RowKit Go.Shelf
attribute [local go_sem] Oper.semAt_some

set_option maxRecDepth 100000 in
set_option maxHeartbeats 4000000 in
theorem has_yes (A A' : Option Addr) (n c B n' c' B' : Nat) (p q : List Int) (w : World) (h : Arg w B A n c p) (h' : Arg w B' A' n' c' q) (hp : isP p = true) (hq : isP q = true) :
    Calls Tryz.prog 125 #[.slice A n c, .slice A' n' c'] w (GivesB w (decide (0 < (occR p q).length))) := by
  have hn8 : n ≤ 8 := by have := isP_le hp; have := h.len; omega
  have hn8' : n' ≤ 8 := by have := isP_le hq; have := h'.len; omega
  have hBu := h.under
  have hBu' := h'.under
  -- the world behind the result's cell
  have hb0 : Below w.heap.size w (w.alloc (.cells #[.bool false] 4)) := (Below.refl _ w).alloc (Nat.le_refl _) _
  have hc0 : Boxed (w.alloc (.cells #[.bool false] 4)) w.heap.size 4 (.bool false) := Boxed.new w _ _
  have H1 := hide (iisperm_any A n c B p true hp _ (h.below hb0).reads (h.below hb0).under h.le h.small)
  have H2 := hide (show ∀ w1, Below w.heap.size w w1 → _ from fun w1 d1 => iisperm_any A' n' c' B' q true hq w1 (h'.below d1).reads (h'.below d1).under h'.le h'.small)
  have H4 := hide (fun w2 => iocs_made A A' n c n' c' w2)
  obtain ⟨b, hb⟩ : ∃ b, b = w.heap.size := ⟨_, rfl⟩
  have HT := hide (show ∀ w2, Below w.heap.size w w2 → b < w2.heap.size → TellsZ Fence.wide 3 Tryz.prog 158 #[.pointer (some ⟨w2.heap.size, 0, none⟩), .pointer (some ⟨w2.heap.size + 1, 0, none⟩)] 6 (fun x : Value × List Int => #[x.1]) (KnO p q)
      (Keep (fun k => k < w2.heap.size + 10 ∧ k ≠ b ∧ k ≠ w2.heap.size + 2 ∧ k ≠ w2.heap.size + 3)) (fun xs => xs.map (·.2) = occR p q) (AllIn p q) 256 ((w2.alloc (.cells #[.slice A n c] 36)).alloc (.cells #[.slice A' n' c'] 36)) from fun w2 d2 hlt => by
    have d3 : Below w2.heap.size w2 ((w2.alloc (.cells #[.slice A n c] 36)).alloc (.cells #[.slice A' n' c'] 36)) := ((Below.refl _ w2).alloc (Nat.le_refl _) _).alloc (by simp) _
    have b2 := Boxed.new (w2.alloc (.cells #[.slice A n c] 36)) 36 (.slice A' n' c')
    rw [World.size_alloc] at b2
    have hw := d2.size
    exact occ_tell A A' n c B n' c' B' p q hp hq _ w2.heap.size (w2.heap.size + 1) 256 _ (h.below (below_after d2 d3)) (h'.below (below_after d2 d3)) (Boxed.alloc (Boxed.new w2 _ _) _) b2
      ⟨fun k hk => by omega, fun k hk => by omega, by omega, by omega, fun k h1 h2 => by simp at h1 h2; omega⟩ 3 (chR_room hn8 hn8'))
  refine (callsIn_wide (n := 4)).1 ?_
  refine callsIn_of_wp_marks Tryz.func125 rfl trivial ?_ rfl
  simp only [Tryz.ntmps125, List.size_toArray, List.length_cons, List.length_nil, Nat.reduceAdd, Nat.reduceSub, Array.replicate_succ, Array.replicate_zero, List.push_toArray, List.append_toArray, List.nil_append, List.cons_append]
  clear h h' hp hq hBu hBu'
  have HB := hide hb
  clear hb
  gi_wp2_with fail
  refine ⟨trivial, ?_⟩
  refine (callsIn_wide.2 (unhide H1)).mono ?_
  rintro e w1 ⟨rfl, d1⟩
  have d1' := below_after hb0 d1
  have H3 := hide (unhide H2 w1 d1')
  clear H1 H2
  gi_wp2_with fail
  refine ⟨trivial, ?_⟩
  refine (callsIn_wide.2 (unhide H3)).mono ?_
  rintro e w2 ⟨rfl, d2⟩
  have d := below_after d1' d2
  have hc2 : Boxed w2 b 4 (.bool false) := by rw [unhide HB]; exact boxed_later (boxed_later hc0 d1) d2
  clear H3 d1 d2 d1' hc0 hb0
  gi_wp2_with fail
  refine ⟨trivial, ?_⟩
  refine (callsIn_wide.2 (unhide H4 _)).mono ?_
  rintro e w3 ⟨rfl, hw3⟩
  have hblt := hc2.lt
  have hseq := unhide HT w2 d hblt
  have hs3 : w3.heap.size = w2.heap.size + 2 := by rw [hw3]; simp
  have hc3 : Boxed w3 b 4 (.bool false) := by rw [hw3]; exact Boxed.alloc (Boxed.alloc hc2 _) _
  have d3 : Below w.heap.size w w3 := below_after d (by rw [hw3]; exact ((Below.refl _ w2).alloc (Nat.le_refl _) _).alloc (by simp) _)
  have hbw : w.heap.size ≤ b := Nat.le_of_eq (unhide HB).symm
  rw [← hw3] at hseq
  rw [← unhide HB]
  clear H4 HT hw3 hc2
  gi_wp2
  refine range_zone rfl (by decide) (gf := 158) (lb := #[.pointer (some ⟨w2.heap.size, 0, none⟩), .pointer (some ⟨w2.heap.size + 1, 0, none⟩)]) rfl trivial (enters_of Tryz.func158 (by kernel_rfl) rfl)
    hseq (fun h k => h.trans k) (fun W r r' hd => Keep.putObj W (by omega) _) (fun _ => rfl) (fun U V x r r' hdU hdV h => ⟨kn_row _ U V x r r' hdU hdV h.1, h.2⟩)
    (fun pre V => pre = [] ∧ Boxed V b 4 (.bool false) ∧ Below w.heap.size w V ∧ w3.heap.size ≤ V.heap.size)
    (fun c pre V => c = .ret ∧ 0 < (occR p q).length ∧ Boxed V b 4 (.bool true) ∧ Below w.heap.size w V ∧ w3.heap.size ≤ V.heap.size)
    (fun pre U V h hb' => ⟨h.1, Boxed.but h.2.1 hb' (by omega), h.2.2.1.trans (hb'.below (by have := d3.size; omega) (by have := d3.size; have := h.2.2.2; omega)), Nat.le_trans h.2.2.2 hb'.size⟩)
    (fun c pre U V h hb' => ⟨h.1, h.2.1, Boxed.but h.2.2.1 hb' (by omega), h.2.2.2.1.trans (hb'.below (by have := d3.size; omega) (by have := d3.size; have := h.2.2.2.2; omega)), Nat.le_trans h.2.2.2.2 hb'.size⟩)
    ⟨rfl, hc3, d3, Nat.le_refl _⟩
    (fun x => { tmps := #[.slice A n c, .slice A' n' c', undef, undef, .pointer (some ⟨b, 0, none⟩), .slice A n c, .bool true, .bool false, .bool false, .slice A' n' c', .bool true, .bool false, .bool false, .slice A n c, .slice A' n' c',
      .func (.func 158) #[] #[.pointer (some ⟨w2.heap.size, 0, none⟩), .pointer (some ⟨w2.heap.size + 1, 0, none⟩)], x.1], defers := [] }) ?assign ?body ?done ?stop
  case assign =>
    intro l x W K hK
    gi_wp2
    simp only [← Array.foldl_toList, Array.toList_zip, List.zip_cons_cons, List.zip_nil_left, List.foldl_cons, List.foldl_nil]
    exact hK
  case body =>
    rintro l pre ⟨u, zs⟩ U W ⟨rfl, hcU, hBU, hsU⟩ hzU hbU ⟨_, hin⟩ hlen
    have hc := boxed_later hcU hbU
    have hcell := hc.cell
    have hfz := hc.frozen
    have hg := grownBy_setCell' W b (.bool true)
    have hlen0 : 0 < (occR p q).length := List.length_pos_of_mem hin
    have hend : (∀ r, Desk w3.heap.size r W → Desk w3.heap.size r (W.setCell ⟨b, 0, none⟩ (.bool true))) ∧ Keep (fun k => k < w2.heap.size + 10 ∧ k ≠ b ∧ k ≠ w2.heap.size + 2 ∧ k ≠ w2.heap.size + 3) W (W.setCell ⟨b, 0, none⟩ (.bool true)) ∧ Code.ret = .ret ∧ 0 < (occR p q).length ∧ Boxed (W.setCell ⟨b, 0, none⟩ (.bool true)) b 4 (.bool true) ∧ Below w.heap.size w (W.setCell ⟨b, 0, none⟩ (.bool true)) ∧ w3.heap.size ≤ (W.setCell ⟨b, 0, none⟩ (.bool true)).heap.size :=
      ⟨fun r hd => ⟨(hg.block _ hd.lt (by simp; omega)).trans hd.rec_, (hg.block _ (by have := hd.lt; omega) (by simp; omega)).trans hd.marks⟩, Keep.setCell W (by omega) _, rfl, hlen0, Boxed.set _ hc, (hBU.trans (hbU.mono (by omega))).setCell (p := ⟨b, 0, none⟩) hbw _, by have := hg.size; have := hbU.size; omega⟩
    have HEND := hide hend
    clear hc hcU hBU hin hlen hlen0 hg hend hs3
    gi_wp2
    have H := unhide HEND
    exact ⟨H.1, H.2.1, rfl, H.2.2.2⟩
  case done =>
    rintro ys W hS ⟨rfl, hc, hB, hs⟩ hK
    have h0 : decide (0 < (occR p q).length) = false := by rw [← hS]; rfl
    have hcell := hc.cell
    have hfz := hc.frozen
    have hB2 : Below w.heap.size w ((W.setCell ⟨b, 0, none⟩ (.bool false)).putObj w3.heap.size (.deferred none)) := (hB.setCell (p := ⟨b, 0, none⟩) hbw _).trans ((Below.refl _ _).grown (grownBy_putObj' _ _ _) (by have := d3.size; have := (grownBy_setCell' W b (.bool false)).size; omega) (fun k e => by cases e; exact d3.size))
    have H0 := hide h0
    clear d3 h0 hs3
    gi_wp2
    have hK' := (KeepsOthers.setCell W ⟨b, 0, none⟩ (.bool false)).same w3.heap.size _ hK rfl
    refine ⟨by simp, .inl ⟨_, _, rfl, run_takeDeferred hK', ?_⟩⟩
    have hc5 := cell_kept (World.cell?_setCell_same' W ⟨b, 0, none⟩ (.bool false) (by rw [hcell]; rfl)) (grownBy_putObj' _ w3.heap.size (.deferred none)) (fun r e => by cases e; exact ⟨_, hK', rfl⟩)
    refine ⟨.bool false, ?_, by rw [unhide H0], hB2⟩
    simp [results, Tryz.f125, go_sem, hc5]
  case stop =>
    rintro c pre W _ ⟨rfl, hl0, hc, hB, hs⟩ hK
    have h0 : decide (0 < (occR p q).length) = true := decide_eq_true hl0
    have hcell := hc.cell
    have hB2 : Below w.heap.size w (W.putObj w3.heap.size (.deferred none)) := hB.trans ((Below.refl _ _).grown (grownBy_putObj' _ _ _) (by have := d3.size; omega) (fun k e => by cases e; exact d3.size))
    have H0 := hide h0
    clear d3 h0 hs3
    gi_wp2
    refine ⟨by simp, .inl ⟨_, _, rfl, run_takeDeferred hK, ?_⟩⟩
    have hc5 := cell_kept hcell (grownBy_putObj' _ w3.heap.size (.deferred none)) (fun r e => by cases e; exact ⟨_, hK, rfl⟩)
    refine ⟨.bool true, ?_, by rw [unhide H0], hB2⟩
    simp [results, Tryz.f125, go_sem, hc5]
set_option maxHeartbeats 800000 in
theorem ihas_any (A A' : Option Addr) (n c B n' c' B' : Nat) (p q : List Int) (w : World) (h : Arg w B A n c p) (h' : Arg w B' A' n' c' q) :
    Calls Tryz.prog 125 #[.slice A n c, .slice A' n' c'] w (GivesB w (hasR p q)) := by
  obtain ⟨bp, hp⟩ : ∃ b, isP p = b := ⟨_, rfl⟩
  obtain ⟨bq, hq⟩ : ∃ b, isP q = b := ⟨_, rfl⟩
  have hb0 : Below w.heap.size w (w.alloc (.cells #[.bool false] 4)) := (Below.refl _ w).alloc (Nat.le_refl _) _
  have hc0 : Boxed (w.alloc (.cells #[.bool false] 4)) w.heap.size 4 (.bool false) := Boxed.new w _ _
  cases bp with
  | false =>
    have H1 := hide (iisperm_any A n c B p false hp _ (h.below hb0).reads (h.below hb0).under h.le h.small)
    rw [show hasR p q = false from by unfold hasR numOcc; rw [hp]; rfl]
    clear h h' hp hq
    go_enter Tryz.func125, Tryz.ntmps125
    go_wp2_with fail
    refine (unhide H1).mono ?_
    rintro e w1 ⟨rfl, d1⟩
    have hc := boxed_later hc0 d1
    have hcell := hc.cell
    have hfz := hc.frozen
    have hB2 := (below_after hb0 d1).setCell (p := ⟨w.heap.size, 0, none⟩) (Nat.le_refl _) (.bool false)
    have hc5 := World.cell?_setCell_same' w1 ⟨w.heap.size, 0, none⟩ (.bool false) (by rw [hcell]; rfl)
    clear H1 d1 hb0 hc0 hc
    go_wp2
    refine bodyPost_ret (v := .bool false) ?_ rfl ⟨rfl, hB2⟩
    simp [results, Tryz.f125, go_sem, hc5]
  | true =>
    cases bq with
    | false =>
      have H1 := hide (iisperm_any A n c B p true hp _ (h.below hb0).reads (h.below hb0).under h.le h.small)
      have H2 := hide (show ∀ w1, Below w.heap.size w w1 → _ from fun w1 d1 => iisperm_any A' n' c' B' q false hq w1 (h'.below d1).reads (h'.below d1).under h'.le h'.small)
      rw [show hasR p q = false from by unfold hasR numOcc; rw [hp, hq]; rfl]
      clear h h' hp hq
      go_enter Tryz.func125, Tryz.ntmps125
      go_wp2_with fail
      refine (unhide H1).mono ?_
      rintro e w1 ⟨rfl, d1⟩
      have H3 := hide (unhide H2 w1 (below_after hb0 d1))
      clear H1 H2
      go_wp2_with fail
      refine (unhide H3).mono ?_
      rintro e w2 ⟨rfl, d2⟩
      have hc := boxed_later (boxed_later hc0 d1) d2
      have hcell := hc.cell
      have hfz := hc.frozen
      have hB2 := (below_after (below_after hb0 d1) d2).setCell (p := ⟨w.heap.size, 0, none⟩) (Nat.le_refl _) (.bool false)
      have hc5 := World.cell?_setCell_same' w2 ⟨w.heap.size, 0, none⟩ (.bool false) (by rw [hcell]; rfl)
      clear H3 d1 d2 hb0 hc0 hc
      go_wp2
      refine bodyPost_ret (v := .bool false) ?_ rfl ⟨rfl, hB2⟩
      simp [results, Tryz.f125, go_sem, hc5]
    | true =>
      have := has_yes A A' n c B n' c' B' p q w h h' hp hq
      rw [show hasR p q = decide (0 < (occR p q).length) from by unfold hasR numOcc; rw [hp, hq]; simp only [Bool.and_self, if_true, decide_eq_decide]; omega]
      exact this
end Go.Proofs.YtoiipedomgefaaaGreatDoor


/-
  impl.permsUpTo, impl.isNoPerm, impl.hasSome, by their contracts.
-/

namespace Go.Proofs.YtoiipedomgefaaaGreatDoor
set_option maxRecDepth 100000
open Go.RowKit

set_option maxHeartbeats 1600000 in
theorem iupto_any (m : Nat) (hm : m ≤ 6) (w : World) :
    Calls Tryz.prog 96 #[.int .i64 m] w (GivesSS w (allU m)) := by
  have hst := IntsS.nil w w.heap.size
  have hb0 := Below.refl w.heap.size w
  go_enter Tryz.func96, Tryz.ntmps96
  go_wp2
  go_loopw [3, 4, 7] (fun v _ i wr => ∃ k : Nat, k ≤ m + 1 ∧ i = .int .i64 k ∧ Below w.heap.size w wr ∧ IntsS wr w.heap.size v ((List.range k).flatMap permL)) (fun _ _ i _ => m + 1 - (intOf i).toNat)
  case atStart => exact ⟨0, Nat.zero_le _, rfl, hb0, hst⟩
  case round =>
    obtain ⟨k, hk, rfl, hb, hI⟩ := hrel
    clear hst hb0
    by_cases hlt : k < m + 1
    · have hlt' : (k : Int) < (m : Int) + 1 := by omega
      have H1 := hide (by have h5 := iperms_any ((k : Nat) : Int) (by omega) wr; rw [permsR_yes (by omega)] at h5; exact h5 : Calls Tryz.prog 128 #[.int .i64 (k : Int)] wr (GivesSS wr (permL k)))
      have hU : ((List.range k).flatMap permL).length ≤ 1048576 := by
        cases k with
        | zero => simp
        | succ j => exact Nat.le_trans (allU_len j (by omega)) (by omega)
      have hN := Nat.le_trans (permL_small k (by omega)).1 (by omega : 720 ≤ 1048576)
      have HE := hide (show (List.range k).flatMap permL ++ permL k = (List.range (k + 1)).flatMap permL by rw [List.range_succ, List.flatMap_append]; simp)
      have hsz := hb.size
      obtain ⟨U, hUe⟩ : ∃ U, U = (List.range k).flatMap permL := ⟨_, rfl⟩
      obtain ⟨Z, hZe⟩ : ∃ Z, Z = permL k := ⟨_, rfl⟩
      rw [← hUe] at hI hU HE
      rw [← hZe] at H1 hN HE
      clear hUe hZe
      go_wp2_with fail
      refine (unhide H1).mono ?_
      rintro e w1 ⟨A1, c1, rfl, o1, d1⟩
      have hb1 := below_after hb d1
      clear H1 hb
      go_wp2_with (first
        | (at_builtin; refine wpList_append_lists rfl (.tmp 10) (.tmp 12) rfl w.heap.size w wr w1 _ A1 Z.length c1 U Z rfl rfl hI d1 o1 hU hN hb1 hsz ?_; intro v2 w2 hI2 hb2))
      rw [unhide HE] at hI2
      clear hI d1 o1 hb1 hU hN hsz
      go_roundw
      case rel => exact ⟨k + 1, by omega, by go_num, hb2, hI2⟩
      case measure => simp [intOf]; omega
    · obtain rfl : k = m + 1 := by omega
      have hlt' : ¬ ((m : Int) + 1 < (m : Int) + 1) := by omega
      have HI := hide hI
      clear hI
      go_wp2
      go_ret
      exact GivesSS.mk (unhide HI) hb
set_option maxHeartbeats 800000 in
theorem inop_any (A : Option Addr) (n c B : Nat) (z : List Int) (w : World) (h : Arg w B A n c z) :
    Calls Tryz.prog 86 #[.slice A n c] w (GivesB w (!isP z)) := by
  obtain ⟨b, hb⟩ : ∃ b, isP z = b := ⟨_, rfl⟩
  have H1 := hide (iisperm_any A n c B z b hb w h.reads h.under h.le h.small)
  rw [hb]
  clear h hb
  go_enter Tryz.func86, Tryz.ntmps86
  go_wp2_with fail
  refine (unhide H1).mono ?_
  rintro e w1 ⟨rfl, d1⟩
  clear H1
  cases b with
  | false =>
    go_wp2
    go_ret
    exact ⟨rfl, d1⟩
  | true =>
    go_wp2
    go_ret
    exact ⟨rfl, d1⟩
set_option maxHeartbeats 800000 in
theorem imb1_any (A : Option Addr) (n c B : Nat) (z : List Int) (w : World) (h : Arg w B A n c z) :
    Calls Tryz.prog 85 #[.slice A n c] w (GivesB w (badB z)) := by
  have hl := h.len
  have H1 := hide (inop_any A n c B z w h)
  obtain ⟨b, hb⟩ : ∃ b, isP z = b := ⟨_, rfl⟩
  rw [hb] at H1
  have HR := hide (show badB z = (!b || decide (n = 0)) by unfold badB; rw [hb, hl])
  rw [unhide HR]
  clear h hb hl
  cases b with
  | false =>
    go_enter Tryz.func85, Tryz.ntmps85
    go_wp2_with fail
    refine (unhide H1).mono ?_
    rintro e w1 ⟨rfl, d1⟩
    clear H1
    go_wp2
    go_ret
    exact ⟨rfl, d1⟩
  | true =>
    by_cases h0 : n = 0
    · have HE := hide (show (!true || decide (n = 0)) = true by rw [decide_eq_true h0]; rfl)
      rw [unhide HE]
      subst h0
      go_enter Tryz.func85, Tryz.ntmps85
      go_wp2_with fail
      refine (unhide H1).mono ?_
      rintro e w1 ⟨rfl, d1⟩
      clear H1
      go_wp2
      go_ret
      exact ⟨rfl, d1⟩
    · have HE := hide (show (!true || decide (n = 0)) = false by rw [decide_eq_false h0]; rfl)
      rw [unhide HE]
      have hn0 : ((n : Int) == 0) = false := by rw [beq_eq_false_iff_ne]; omega
      go_enter Tryz.func85, Tryz.ntmps85
      go_wp2_with fail
      refine (unhide H1).mono ?_
      rintro e w1 ⟨rfl, d1⟩
      clear H1
      go_wp2
      go_ret
      exact ⟨rfl, d1⟩
set_option maxHeartbeats 800000 in
theorem ihs1_any (A A' : Option Addr) (n c B n' c' B' bx : Nat) (z p : List Int) (w : World) (h : Arg w B A n c z) (h' : Arg w B' A' n' c' p) (hz : isP z = true) (hp : isP p = true) (hx : w.cell? ⟨bx, 0, none⟩ = some (.slice A' n' c')) :
    Calls Tryz.prog 124 #[.slice A n c, .pointer (some ⟨bx, 0, none⟩)] w (GivesB w (hasO p z)) := by
  have H1 := hide (has_yes A' A n' c' B' n c B p z w h' h hp hz)
  rw [← hasO_occ hp hz] at H1
  clear h h' hz hp
  go_enter Tryz.func124, Tryz.ntmps124
  go_wp2_with fail
  refine (unhide H1).mono ?_
  rintro e w1 ⟨rfl, d1⟩
  clear H1 hx
  go_wp2
  go_ret
  exact ⟨rfl, d1⟩
theorem any_avo (L : List (List Int)) (p : List Int) : L.any (hasO p) = !avo L p := by
  unfold avo
  rw [List.not_all_eq_any_not]
  congr 1
  funext q
  rw [Bool.not_not]
set_option maxHeartbeats 800000 in
theorem ihs_any (A A' : Option Addr) (n c B n' c' B' : Nat) (p : List Int) (zss : List (List Int)) (w : World) (h : Arg w B A n c p) (hS : IntsS w B' (.slice A' n' c') zss) (hp : isP p = true) (hz : ∀ z ∈ zss, isP z = true) (hn : n' ≤ 1048576) :
    Calls Tryz.prog 87 #[.slice A n c, .slice A' n' c'] w (GivesB w (!avo zss p)) := by
  have hb0 : Below w.heap.size w (w.alloc (.cells #[.slice A n c] 36)) := (Below.refl _ w).alloc (Nat.le_refl _) _
  have hc0 : Boxed (w.alloc (.cells #[.slice A n c] 36)) w.heap.size 36 (.slice A n c) := Boxed.new w _ _
  have H1 := hide (conHS_any w.heap.size A' n' c' B' zss (hasO p) (w.alloc (.cells #[.slice A n c] 36)) (hS.below hb0) hn (hide fun w1 d A1 c1 z hzm hI =>
    ihs1_any A1 A z.length c1 _ n c B w.heap.size z p w1 (hI.argP (hz z hzm)) (h.below (below_after hb0 d)) (hz z hzm) hp (Boxed.cell (boxed_later hc0 d))))
  rw [any_avo] at H1
  clear h hS hz hp
  go_enter Tryz.func87, Tryz.ntmps87
  go_wp2_with fail
  refine (unhide H1).mono ?_
  rintro e w1 ⟨rfl, d1⟩
  have d := below_after hb0 d1
  clear H1 d1 hb0 hc0
  go_wp2
  go_ret
  exact ⟨rfl, d⟩
end Go.Proofs.YtoiipedomgefaaaGreatDoor


/-
  impl.OrderPerms, impl.SymmetryClass and impl.LeastSymmetry, by their contracts.
-/

namespace Go.Proofs.YtoiipedomgefaaaGreatDoor
set_option maxRecDepth 100000
open Go.RowKit

/-- What is in order and has each once is known by what it has. -/
theorem kept_ord {zss : List (List Int)} {xs ys : List Pr} (hall : allP zss = true) (hx : xs.map (·.2) = zss) (hp : ys.Perm xs) (hs : ∀ (i j : Nat) (x y : Pr), i < j → ys[i]? = some x → ys[j]? = some y → befL y.2 x.2 = false) :
    (keepN (·.2) ys ys.length).map (·.2) = ordR zss := by
  obtain ⟨h1, h2⟩ := keepN_sorted (f := fun q : Pr => q.2) hs ys.length (Nat.le_refl _)
  rw [ordR_yes hall]
  refine asc_unique h1 (ordL_asc _ _) fun z => ?_
  rw [h2 z, ordL_mem, List.take_length, List.take_length, ← hx]
  exact (hp.map _).mem_iff

set_option maxHeartbeats 1600000 in
theorem iord_any (A : Option Addr) (n c B : Nat) (zss : List (List Int)) (w : World) (hS : IntsS w B (.slice A n c) zss) (hn : n ≤ 1048576) (hsm : ∀ z ∈ zss, z.length ≤ 1048576 ∧ Small z) :
    Calls Tryz.prog 55 #[.slice A n c] w (GivesSS w (ordR zss)) := by
  obtain ⟨i0, hi, hz0, hz1, hz2⟩ := info_parts rowsInfo1
  have hl := hS.len
  have HL := hide hl
  have HSM := hide hsm
  clear hl hsm
  go_enter Tryz.func55, Tryz.ntmps55
  go_wp2_with (first
    | (at_make; refine wpList_make_full _ rfl (.tmp 7) (.tmp 7) 24 rfl w.heap.size 36 i0 (.slice none 0 0) 1 Tryz.underlying24 hi hz0 hz1 _ _ _ _ n rfl rfl (by first | rfl | omega) (by first | rfl | omega) (by rw [hz2]; omega) (by unfold maxLen; omega) (Nat.le_refl _) ?_; intro w1 hown hg))
  have hF := Filled.start (zss := zss) (unhide HL) (Below.refl w.heap.size w) hown hg
  clear hown hg
  obtain ⟨g, hgw⟩ : ∃ g, g = w.heap.size := ⟨_, rfl⟩
  rw [← hgw] at hF ⊢
  clear hgw
  go_loopw [4, 5, 11] (fun _ _ i wr => ∃ k : Nat, k ≤ n ∧ i = .int .i64 k ∧ Filled w wr g n zss k ∧ Hid (∀ z ∈ zss.take k, isP z = true)) (fun _ _ i _ => n - (intOf i).toNat)
  case atStart => exact ⟨0, Nat.zero_le _, rfl, hF, fun z hz => by simp at hz⟩
  case round =>
    obtain ⟨k, hk, rfl, hF, hP⟩ := hrel
    by_cases hlt : k < n
    · obtain ⟨ad, A1, c1, z, rfl, hz, hcell, hI⟩ := (hS.below hF.below).at_ hlt
      obtain ⟨hzl, hzs⟩ := unhide HSM z (List.mem_of_getElem? hz)
      have hA := hI.arg hzl hI.cap hzs
      obtain ⟨b, hb⟩ : ∃ b, isP z = b := ⟨_, rfl⟩
      have H1 := hide (iisperm_any A1 z.length c1 wr.heap.size z b hb wr hA.reads hA.under hA.le hA.small)
      cases b with
      | false =>
        have hr := hide (ordR_no (allP_no (List.mem_of_getElem? hz) hb))
        have hb0 := hF.below
        clear hz hb hI hA hF hP hzs
        go_wp2_with fail
        refine (unhide H1).mono ?_
        rintro e w2 ⟨rfl, hb⟩
        have hb2 := below_after hb0 hb
        clear H1 hb hb0
        go_wp2
        go_ret
        rw [unhide hr]
        exact GivesSS.mk (IntsS.nil _ _) hb2
      | true =>
        have H2 := hide (fun w' (hb' : Below wr.heap.size wr w') => clone_any A1 z.length c1 wr.heap.size z w' (hA.below hb'))
        have HF := hide hF
        have HZ := hide hz
        have hnext : Hid (∀ z ∈ zss.take (k + 1), isP z = true) := hide (fun y hy => by
          rw [List.take_add_one, hz] at hy
          rcases List.mem_append.1 hy with h | h
          · exact unhide hP y h
          · simp at h
            subst h
            exact hb)
        clear hz hb hI hA hF hP hzs
        go_wp2_with fail
        refine (unhide H1).mono ?_
        rintro e w2 ⟨rfl, hb⟩
        have H3 := hide (unhide H2 w2 hb)
        clear H1 H2
        go_wp2_with fail
        refine (unhide H3).mono ?_
        rintro e w3 ⟨A3, c3, rfl, o3, d3⟩
        have hb3 := below_after hb d3
        obtain ⟨⟨old, hold⟩, hfz⟩ := (unhide HF).old hb3 hlt
        have hF2 := (unhide HF).put (unhide HZ) hb3 (o3.low hb.size)
        clear H3 hb d3 hb3 o3 HF HZ
        go_wp2
        go_roundw
        case rel => exact ⟨k + 1, by omega, by go_num, hF2, hnext⟩
        case measure => simp [intOf]; omega
    · obtain rfl : n = k := by omega
      have hall : allP zss = true := allP_yes fun z hz => unhide hP z (by rw [List.take_of_length_le (by rw [unhide HL]; exact Nat.le_refl _)]; exact hz)
      obtain ⟨hbw, vs, hown, hin⟩ := hF
      rw [← unhide HL, fillS_all] at hin
      obtain ⟨xs, hx1, hx2, hx⟩ := hin.prs
      rw [← hx1] at hown
      have hxP : ∀ q ∈ xs, isP q.2 = true := fun q hq => allP_at hall (by rw [← hx2]; exact List.mem_map_of_mem hq)
      have H1 := hide (sort_any wr w.heap.size g n n xs hown hx hxP hn)
      have HALL := hide hall
      have HX2 := hide hx2
      have HX := hide hx
      have HXP := hide hxP
      have HOWN := hide hown
      clear hP hall hin hx hxP hx1 hx2 hown
      go_wp2_with fail
      refine (unhide H1).mono ?_
      rintro e w2 ⟨rfl, ys, hperm, hsort, hown2, hg2⟩
      have hk2 := KeepI.of_grown (v := .slice (some ⟨g, 0, none⟩) n n) (unhide HOWN) hg2
      have hy : RowPrs w2 w.heap.size ys := ((unhide HX).perm hperm).keepI hk2
      have hyP : ∀ q ∈ ys, isP q.2 = true := fun q hq => unhide HXP q (hperm.subset hq)
      have hbg := ((unhide HOWN).lt g rfl).1
      have hb2 := hbw.grown hg2 hbw.size (fun q hq => by injection hq with hq; omega)
      have H2 := hide (compact_any w2 w.heap.size g n n ys hown2 hy hyP hn (Nat.le_refl _))
      have HORD := hide (kept_ord (unhide HALL) (unhide HX2) hperm hsort)
      have HY := hide hy
      have HOWN2 := hide hown2
      clear H1 hperm hsort hown2 hg2 hk2 hy hyP hbw
      go_wp2_with fail
      refine (unhide H2).mono ?_
      rintro e w3 ⟨rfl, hown3, hg3⟩
      have hk3 := KeepI.of_grown (v := .slice (some ⟨g, 0, none⟩) n n) (unhide HOWN2) hg3
      have hp3 := ((unhide HY).keepI hk3).sub ((keepN_sub (f := fun q : Pr => q.2) ys ys.length).trans (List.take_sublist _ _))
      have hb3 := hb2.grown hg3 hb2.size (fun q hq => by injection hq with hq; omega)
      have hlen : (ordR zss).length = (keepN (·.2) ys ys.length).length := by rw [← unhide HORD, List.length_map]
      have hfin : IntsS w3 w.heap.size (.slice (some ⟨g, 0, none⟩) (keepN (·.2) ys ys.length).length n) (ordR zss) := by
        refine ⟨(keepN (·.2) ys ys.length).map (·.1), by rw [hlen]; exact hown3, ?_⟩
        rw [← unhide HORD]
        exact hp3.inner
      clear H2 hown3 hg3 hk3 hp3 hlen
      go_wp2
      go_ret
      exact GivesSS.mk hfin hb3
end Go.Proofs.YtoiipedomgefaaaGreatDoor
