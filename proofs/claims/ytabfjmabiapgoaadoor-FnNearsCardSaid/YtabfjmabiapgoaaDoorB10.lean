/-
  Words and contracts that the laws lean on, bundled: OccT, CntI, Ident, ConI, BackT, Turn, RevI, Big.
-/
import Derived.Test.YtabfjmabiapgoaaDoorB9
import Derived.Test.YtabfjmabiapgoaaDoorB5
import Derived.Test.YtabfjmabiapgoaaDoorB7
import Derived.Test.YtabfjmabiapgoaaDoorB4
import Derived.Test.YtabfjmabiapgoaaDoorProg
import Derived.Test.YtabfjmabiapgoaaDoorB1
import Derived.Test.YtabfjmabiapgoaaDoorB3
import Derived.Test.YtabfjmabiapgoaaDoorShelfR
import Derived.Sort.OwnSortedInts
import Derived.Maps.AppendAt
import Derived.Stop.RegionWithIn
import Derived.Test.YtabfjmabiapgoaaDoorB2

/-
  impl.occurrences: an iterator over the occurrences in order; each list is new.
-/

namespace Go.Proofs.YtabfjmabiapgoaaDoor
set_option maxRecDepth 100000
open Go.RowKit Go.Shelf
attribute [local go_sem] Oper.semAt_some

theorem arg_kept {w w' : World} {B n c : Nat} {A : Option Addr} {zs : List Int} (h : Arg w B A n c zs) (hs : w.heap.size ≤ w'.heap.size) (hk : ∀ k, k < B → w'.heap[k]? = w.heap[k]?) : Arg w' B A n c zs :=
  ⟨h.reads.keep fun p hp => by unfold World.cell?; rw [hk p.block hp], Nat.le_trans h.under hs, h.le, h.cap, h.small, h.nil⟩
theorem iocs_made (A A' : Option Addr) (n c n' c' : Nat) (w : World) :
    Calls Tryd.prog 33 #[.slice A n c, .slice A' n' c'] w fun e w' => e = .returned (.func (.func 67) #[] #[.pointer (some ⟨w.heap.size, 0, none⟩), .pointer (some ⟨w.heap.size + 1, 0, none⟩)]) ∧ w' = (w.alloc (.cells #[.slice A n c] 24)).alloc (.cells #[.slice A' n' c'] 24) := by
  go_enter Tryd.func33, Tryd.ntmps33
  go_wp2
  go_ret
  exact ⟨rfl, rfl⟩

/-- What a handed occurrence is. -/
def KnO (p q : List Int) (U : World) (x : Value × List Int) (V : World) : Prop := Ints V U.heap.size x.1 x.2 ∧ x.2 ∈ occR p q
/-- Each of them is one. -/
def AllIn (p q : List Int) (xs : List (Value × List Int)) : Prop := ∀ x ∈ xs, x.2 ∈ occR p q
/-- What the iterator over occurrences needs to lie as it lay. -/
structure KeptO (P : Nat → Prop) (B B' bp bq lo : Nat) : Prop where
  p : ∀ k, k < B → P k
  q : ∀ k, k < B' → P k
  bp : P bp
  bq : P bq
  zone : ∀ k, lo ≤ k → k < lo + 6 → P k
/-- What holds while it runs. -/
structure AtO (A A' : Option Addr) (n c B n' c' B' : Nat) (p q : List Int) (bp bq by_ l : Nat) (V : World) : Prop where
  p : Arg V B A n c p
  q : Arg V B' A' n' c' q
  bp : Boxed V bp 24 (.slice A n c)
  bq : Boxed V bq 24 (.slice A' n' c')
  by_ : Boxed V by_ 47 (.func (.yield l) #[] #[])

theorem AtO.below {A A' : Option Addr} {n c B n' c' B' : Nat} {p q : List Int} {bp bq by_ l : Nat} {U V : World} (h : AtO A A' n c B n' c' B' p q bp bq by_ l U) (hb : Below U.heap.size U V) : AtO A A' n c B n' c' B' p q bp bq by_ l V :=
  ⟨h.p.below hb, h.q.below hb, boxed_later h.bp hb, boxed_later h.bq hb, boxed_later h.by_ hb⟩
theorem AtO.drew {A A' : Option Addr} {n c B n' c' B' : Nat} {p q : List Int} {bp bq by_ l : Nat} {U : World} (h : AtO A A' n c B n' c' B' p q bp bq by_ l U) : AtO A A' n c B n' c' B' p q bp bq by_ l U.drew := h.below (below_drew _ U)
theorem patA_small {p pl : List Int} (hp : isP p = true) (h : PlOK p.length pl) : Small (patA p pl) := fun z hz => by
  obtain ⟨k, hk⟩ := List.getElem?_of_mem hz
  have h1 : isP (patA p pl) = true := by unfold patA; rw [isP_pat]; exact nums_patOK hp h
  have := isP_range h1 hk
  have := isP_le h1
  omega
set_option maxRecDepth 100000 in
set_option maxHeartbeats 4000000 in
theorem occ_tell (A A' : Option Addr) (n c B n' c' B' : Nat) (p q : List Int) (hp : isP p = true) (hq : isP q = true) (P : Nat → Prop) (bp bq N : Nat) (w : World) (hpA : Arg w B A n c p) (hqA : Arg w B' A' n' c' q)
    (hbp : Boxed w bp 24 (.slice A n c)) (hbq : Boxed w bq 24 (.slice A' n' c')) (hk : KeptO P B B' bp bq (w.heap.size + 2)) (m : Nat) (hN : (chR n n').length ≤ N) :
    TellsZ Fence.wide m Tryd.prog 67 #[.pointer (some ⟨bp, 0, none⟩), .pointer (some ⟨bq, 0, none⟩)] 6 (fun x : Value × List Int => #[x.1]) (KnO p q) (Keep P) (fun xs => xs.map (·.2) = occR p q) (AllIn p q) N w := by
  intro l J Jx W hW hsz hJ hJx hY h0
  change CallsIn Fence.wide m Tryd.prog 67 #[.func (.yield l) #[] #[], .pointer (some ⟨bp, 0, none⟩), .pointer (some ⟨bq, 0, none⟩)] W _
  have hn8 : n ≤ 8 := by have := isP_le hp; have := hpA.len; omega
  have hn8' : n' ≤ 8 := by have := isP_le hq; have := hqA.len; omega
  have hbpl := Boxed.lt hbp
  have hbql := Boxed.lt hbq
  have hBu := hpA.under
  have hBu' := hqA.under
  -- the world ahead of the loop
  obtain ⟨w1, hw1⟩ : ∃ w1, w1 = W.alloc (.cells #[.func (.yield l) #[] #[]] 47) := ⟨_, rfl⟩
  have hs1 : w1.heap.size = w.heap.size + 3 := by rw [hw1]; simp [hsz]
  have hb1 : Below W.heap.size W w1 := by rw [hw1]; exact (Below.refl _ W).alloc (Nat.le_refl _) _
  obtain ⟨w3, hw3⟩ : ∃ w3, w3 = (w1.alloc (.cells #[.int .i64 n] 3)).alloc (.cells #[.int .i64 n'] 3) := ⟨_, rfl⟩
  have hs3 : w3.heap.size = w.heap.size + 5 := by rw [hw3]; simp [hs1]
  have hb3 : Below w1.heap.size w1 w3 := by rw [hw3]; exact ((Below.refl _ w1).alloc (Nat.le_refl _) _).alloc (by simp) _
  have hbW3 : Below W.heap.size W w3 := below_after hb1 hb3
  have hbw1 : Below w.heap.size w w1 := below_after hW hb1
  have hbw3 : Below w.heap.size w w3 := below_after hW hbW3
  have hby1 : Boxed w1 (w.heap.size + 2) 47 (.func (.yield l) #[] #[]) := by rw [hw1, ← hsz]; exact Boxed.new W _ _
  have hAt : AtO A A' n c B n' c' B' p q bp bq (w.heap.size + 2) l w3 := ⟨hpA.below hbw3, hqA.below hbw3, boxed_later hbp hbw3, boxed_later hbq hbw3, boxed_later hby1 hb3⟩
  have hbn : Boxed w3 (w.heap.size + 3) 3 (.int .i64 n) := by rw [hw3, ← hs1]; exact Boxed.alloc (Boxed.new w1 _ _) _
  have hbk : Boxed w3 (w.heap.size + 4) 3 (.int .i64 n') := by
    have := Boxed.new (w1.alloc (.cells #[.int .i64 n] 3)) 3 (.int .i64 n')
    rw [World.size_alloc, hs1] at this
    rw [hw3]; exact this
  have hJ3 : J [] w3 := hJ _ _ _ h0 (But.of_below hbW3)
  have hseq := choices_tell n n' N (w.heap.size + 3) (w.heap.size + 4) hn8 hn8' hN 3 w3 hbn hbk
  have hcp1 := Boxed.cell (boxed_later hbp hbw1)
  have hcq1 := Boxed.cell (boxed_later hbq hbw1)
  have HC := hide (fun w' => icho_any n n' w')
  refine callsIn_wide.2 ((callsIn_wide (n := 4)).1 ?_)
  refine callsIn_of_wp_marks Tryd.func67 rfl trivial ?_ rfl
  simp only [Tryd.ntmps67, List.size_toArray, List.length_cons, List.length_nil, Nat.reduceAdd, Nat.reduceSub, Array.replicate_succ, Array.replicate_zero, List.push_toArray, List.append_toArray, List.nil_append, List.cons_append]
  rw [hw1] at hcp1 hcq1
  have HW1 := hide hw1
  have HW3 := hide hw3
  clear hw1 hw3
  gi_wp2_with fail
  refine ⟨trivial, ?_⟩
  refine (callsIn_wide.2 (unhide HC _)).mono ?_
  rintro e w2 ⟨rfl, hw2⟩
  rw [← unhide HW1, ← unhide HW3] at hw2
  subst hw2
  rw [← unhide HW1, hs1]
  clear HC HW1 HW3 hcp1 hcq1
  have HBD := hide (⟨hk, hJ, hJx⟩ : KeptO P B B' bp bq (w.heap.size + 2) ∧ (∀ pre U V, J pre U → But (w.heap.size + 2) (w.heap.size + 2 + 6) U V → J pre V) ∧ (∀ pre U V, Jx pre U → But (w.heap.size + 2) (w.heap.size + 2 + 6) U V → Jx pre V))
  have HFI := hide (occ_filter hp hq)
  have HIN := hide (show ∀ pl, patA p pl = q → pl.length = n' → PlOK n pl → pl ∈ occR p q from fun pl h1 h2 h3 => by
    have e1 := hpA.len
    have e2 := hqA.len
    exact mem_occ.2 (isOcc_iff.2 ⟨hp, hq, by omega, by rw [e1]; exact h3, h1⟩))
  have e1 := hpA.len
  have e2 := hqA.len
  have hwle := hbw3.size
  clear hW h0 hb1 hb3 hbW3 hbw1 hbw3 hby1 hbn hbk hpA hqA hbp hbq hJ hJx hk hs1
  gi_wp2
  refine range_zone rfl (by decide) (gf := 78) (lb := #[.pointer (some ⟨w.heap.size + 4, 0, none⟩), .pointer (some ⟨w.heap.size + 3, 0, none⟩)]) rfl trivial (enters_of Tryd.func78 (by kernel_rfl) rfl)
    hseq (fun h k => ⟨Nat.le_trans h.1 k.1, k.2.trans h.2⟩) (fun W r r' hd => ⟨by unfold World.putObj; simp, World.putObj_heap_other (by omega)⟩) (fun _ => rfl) (fun U V x r r' hdU hdV h => ⟨h.1.kept (World.putObj_heap_other (by omega)), h.2⟩)
    (fun pre V => ∃ xs, (J xs V ∧ xs.map (·.2) = pre.filter (fun pl => decide (patA p pl = q))) ∧ AtO A A' n c B n' c' B' p q bp bq (w.heap.size + 2) l V ∧ AllIn p q xs)
    (fun c _ V => c = .ret ∧ ∃ xs, Jx xs V ∧ AllIn p q xs)
    (fun pre U V h hb => by
      obtain ⟨xs, ⟨h1, h2⟩, h3, h4⟩ := h
      exact ⟨xs, ⟨(unhide HBD).2.1 _ _ _ h1 (hb.mono (by omega) (by omega)), h2⟩, ⟨arg_kept h3.p hb.size fun k hk => hb.block k (by have := h3.p.under; omega) (by omega), arg_kept h3.q hb.size fun k hk => hb.block k (by have := h3.q.under; omega) (by omega), Boxed.but h3.bp hb (by omega), Boxed.but h3.bq hb (by omega), Boxed.but h3.by_ hb (by omega)⟩, h4⟩)
    (fun c pre U V h hb => by
      obtain ⟨hc, xs, h1, h2⟩ := h
      exact ⟨hc, xs, (unhide HBD).2.2 _ _ _ h1 (hb.mono (by omega) (by omega)), h2⟩)
    ⟨[], ⟨hJ3, rfl⟩, hAt, fun x hx => by cases hx⟩
    (fun _ => { tmps := #[.func (.yield l) #[] #[], .pointer (some ⟨bp, 0, none⟩), .pointer (some ⟨bq, 0, none⟩), .pointer (some ⟨w.heap.size + 2, 0, none⟩), .slice (some ⟨w2.heap.size + 2, 0, none⟩) n' n', .slice A n c, .int .i64 n, .slice A' n' c', .int .i64 n',
      .func (.func 78) #[] #[.pointer (some ⟨w.heap.size + 4, 0, none⟩), .pointer (some ⟨w.heap.size + 3, 0, none⟩)], .slice (some ⟨w2.heap.size + 2, 0, none⟩) n' n', undef, undef, undef, undef, undef, undef, undef, undef, undef, undef, undef, undef], defers := [] }) ?assign ?body ?done ?stop
  case assign =>
    intro l x W K hK
    clear hs3
    gi_wp2
    exact hK
  case body =>
    rintro l2 pre pl U V ⟨xs, ⟨hJU, hxs⟩, hAtU, hall⟩ hzU hbU ⟨hbuf, hpl, hok⟩ hlen
    obtain ⟨g, hg⟩ : ∃ g, g = w2.heap.size + 2 := ⟨_, rfl⟩
    rw [← hg] at hbuf ⊢
    have hAtV0 := hAtU.below hbU
    have hAtV := hAtV0.drew
    have hJV := (unhide HBD).2.1 _ _ _ hJU (But.of_below hbU)
    have hsm : Small pl := fun z hz => by have := hok.1 z hz; omega
    have hApl := ((hpl ▸ hbuf.ints : Ints V g (.slice (some ⟨g, 0, none⟩) n' n') pl).arg (by omega) (Nat.le_refl _) hsm).drew
    have hcp := Boxed.cell hAtV.bp
    have hcq := Boxed.cell hAtV.bq
    have hcy := Boxed.cell hAtV.by_
    have H1 := hide (ipatat_any A (some ⟨g, 0, none⟩) n c B n' n' _ p pl hp (e1.symm ▸ hok) V.drew hAtV.p hApl)
    have hmx : Tryd.prog.follows .mixedOrders = true := by kernel_rfl
    by_cases hyes : patA p pl = q
    · have hdec : decide (patA p pl = q) = true := by simpa using hyes
      have H2 := hide (show ∀ (A4 : Option Addr) (c4 : Nat) (w4 : World), Ints w4 V.drew.heap.size (.slice A4 (patA p pl).length c4) (patA p pl) → Below V.drew.heap.size V.drew w4 → Calls Tryd.prog 69 #[.slice A4 (patA p pl).length c4, .slice A' n' c'] w4 fun e w' => e = .returned (.bool true) ∧ Drew w4 w' from fun A4 c4 w4 h1 h2 =>
        eqsl_any A4 A' _ c4 _ n' c' B' (patA p pl) q true hdec w4 (h1.arg (by unfold patA; rw [patL_length, nums_length]; omega) h1.cap (patA_small hp (e1.symm ▸ hok))) (hAtV.q.below h2))
      have HQ := hide (show ∀ w4, Below V.drew.heap.size V.drew w4 → w4.cell? ⟨bq, 0, none⟩ = some (.slice A' n' c') from fun w4 h => Boxed.cell (boxed_later hAtV.bq h))
      have HY := hide (show ∀ w4, Below V.drew.heap.size V.drew w4 → w4.cell? ⟨w.heap.size + 2, 0, none⟩ = some (.func (.yield l) #[] #[]) from fun w4 h => Boxed.cell (boxed_later hAtV.by_ h))
      have HCL := hide (show ∀ w5, Below V.drew.heap.size V.drew w5 → Calls Tryd.prog 47 #[.slice (some ⟨g, 0, none⟩) n' n'] w5 (GivesI w5 pl) from fun w5 h => clone_any (some ⟨g, 0, none⟩) n' n' _ pl w5 (hApl.below h))
      have HYL := hide (show ∀ (w5 w6 : World) (A6 : Option Addr) (c6 : Nat), Below V.heap.size V w5 → Below w5.heap.size w5 w6 → Ints w6 w5.heap.size (.slice A6 pl.length c6) pl → YieldAt Fence.wide 1 Tryd.prog l #[.slice A6 pl.length c6] w6 fun e V' => ∃ b : Bool, e = .returned (.bool b) ∧
          (b = true → (∀ r, Desk w2.heap.size r V → Desk w2.heap.size r V') ∧ (V.heap.size ≤ V'.heap.size ∧ V'.heap[g]? = V.heap[g]?) ∧ ∃ xs, (J xs V' ∧ xs.map (·.2) = (pre ++ [pl]).filter (fun pl => decide (patA p pl = q))) ∧ AtO A A' n c B n' c' B' p q bp bq (w.heap.size + 2) l V' ∧ AllIn p q xs) ∧
          (b = false → (∀ r, Desk w2.heap.size r V → Desk w2.heap.size r V') ∧ (V.heap.size ≤ V'.heap.size ∧ V'.heap[g]? = V.heap[g]?) ∧ ∃ xs, Jx xs V' ∧ AllIn p q xs) from fun w5 w6 A6 c6 h5 h6 hI => by
        have hin := unhide HIN pl hyes hpl hok
        have hk := (unhide HBD).1
        have hz5 := h5.size
        have hz6 := h6.size
        have hbs := hbU.size
        have hxl : xs.length < N := by
          have h1 := congrArg List.length hxs
          have h2 := List.length_filter_le (fun pl => decide (patA p pl = q)) pre
          rw [List.length_map] at h1
          omega
        have hV6 : Below V.heap.size V w6 := below_after h5 h6
        have hglt := hbuf.lt
        have hkeep : ∀ V', Keep P w6 V' → (∀ r, Desk w2.heap.size r V → Desk w2.heap.size r V') ∧ (V.heap.size ≤ V'.heap.size ∧ V'.heap[g]? = V.heap[g]?) := fun V' h =>
          ⟨fun r hd => h.desk (hd.later hV6) (hk.zone _ (by omega) (by omega)) (hk.zone _ (by omega) (by omega)), Nat.le_trans hV6.size h.size, (h.block g (by omega) (hk.zone _ (by omega) (by omega))).trans (hV6.block g hglt)⟩
        have hall2 : AllIn p q (xs ++ [(.slice A6 pl.length c6, pl)]) := fun x hx => by
          rcases List.mem_append.1 hx with h | h
          · exact hall x h
          · rw [List.mem_singleton.1 h]; exact hin
        refine (round_any rfl (hY xs (.slice A6 pl.length c6, pl) w5 w6 ((unhide HBD).2.1 _ _ _ hJV (But.of_below h5)) (by omega) h6 ⟨hI, hin⟩ hxl)).mono ?_
        rintro e V' (⟨rfl, h1, h2⟩ | ⟨rfl, h1, h2⟩)
        · refine ⟨true, rfl, fun _ => ⟨(hkeep V' h2).1, (hkeep V' h2).2, xs ++ [(.slice A6 pl.length c6, pl)], ⟨h1, by rw [List.map_append, hxs, List.filter_append]; simp [hyes]⟩, ?_, hall2⟩, fun h => (by cases h)⟩
          have h6 := hAtV0.below hV6
          exact ⟨arg_kept h6.p h2.size fun k hkk => h2.block k (by have := h6.p.under; omega) (hk.p k hkk), arg_kept h6.q h2.size fun k hkk => h2.block k (by have := h6.q.under; omega) (hk.q k hkk), h2.boxed h6.bp hk.bp, h2.boxed h6.bq hk.bq, h2.boxed h6.by_ (hk.zone _ (by omega) (by omega))⟩
        · exact ⟨false, rfl, fun h => (by cases h), fun _ => ⟨(hkeep V' h2).1, (hkeep V' h2).2, xs ++ [(.slice A6 pl.length c6, pl)], h1, hall2⟩⟩)
      have HG := hide (⟨hg, hs3⟩ : g = w2.heap.size + 2 ∧ w2.heap.size = w.heap.size + 5)
      clear hseq hAtU hAtV hAtV0 hApl hJU hJV hbuf hxs hall hyes hg hs3 hY hpl
      gi_wp2_with fail
      refine region_round l2 rfl (by kernel_rfl) hmx ?_
      change wpAnyIn _ _ _ _ _ _ _ _ _ (World.drew _)
--REGION-YES
      refine wpAnyIn_take (i := 1) (v := .slice (some ⟨g, 0, none⟩) n' n') rfl rfl (by kernel_rfl) (by kernel_rfl) (by kernel_rfl) (fun _ _ _ h => h) ⟨Or.inl ⟨by rfl, fun w => by go_simp⟩, fun _ => rfl⟩ ?_
      simp only [Act.put]
      refine wpAnyIn_ready (rs := [0, 3]) (by kernel_rfl) (by simp) ?_
      refine AllReadyIn.cons rfl (fun K hK => ?_) (AllReadyIn.cons rfl (fun K hK => ?_) (AllReadyIn.nil))
      · skip
        go_simp
        refine hK _ _ ?_
        clear hK K
        refine wpAnyIn_ready (rs := [2, 3]) (by kernel_rfl) (by simp) ?_
        refine AllReadyIn.cons rfl (fun K hK => ?_) (AllReadyIn.cons rfl (fun K hK => ?_) (AllReadyIn.nil))
        · skip
          go_simp
          refine ⟨trivial, ?_⟩
          refine (callsIn_wide.2 (unhide H1)).mono ?_
          rintro e w4 ⟨A4, c4, rfl, o4, d4⟩
          have hq4 := unhide HQ w4 d4
          have H3 := hide (unhide H2 A4 c4 w4 o4 d4)
          refine hK _ _ ?_
          clear hK K
          refine wpAnyIn_ready (rs := [3]) (by kernel_rfl) (by simp) ?_
          refine AllReadyIn.cons rfl (fun K hK => ?_) (AllReadyIn.nil)
          go_simp
          refine hK _ _ ?_
          clear hK K
          refine wpAnyIn_ready (rs := [4]) (by kernel_rfl) (by simp) ?_
          refine AllReadyIn.cons rfl (fun K hK => ?_) (AllReadyIn.nil)
          go_simp
          refine ⟨trivial, ?_⟩
          refine (callsIn_wide.2 (unhide H3)).mono ?_
          rintro e w5 ⟨rfl, d5⟩
          have hb5 := d4.trans (d5.below _)
          have hy5 := unhide HY w5 hb5
          have H4 := hide (unhide HCL w5 hb5)
          refine hK _ _ ?_
          clear hK K
          refine wpAnyIn_take (i := 5) (v := .bool true) rfl rfl (by kernel_rfl) (by kernel_rfl) (by kernel_rfl) (fun _ _ _ h => h) ⟨Or.inl ⟨by rfl, fun w => by go_simp⟩, fun _ => rfl⟩ ?_
          simp only [Act.put]
          refine wpAnyIn_take (i := 7) (v := .slice (some ⟨g, 0, none⟩) n' n') rfl rfl (by kernel_rfl) (by kernel_rfl) (by kernel_rfl) (fun _ _ _ h => h) ⟨Or.inl ⟨by rfl, fun w => by go_simp⟩, fun _ => rfl⟩ ?_
          simp only [Act.put]
          refine wpAnyIn_ready (rs := [6, 8]) (by kernel_rfl) (by simp) ?_
          refine AllReadyIn.cons rfl (fun K hK => ?_) (AllReadyIn.cons rfl (fun K hK => ?_) (AllReadyIn.nil))
          · skip
            go_simp
            refine hK _ _ ?_
            clear hK K
            refine wpAnyIn_ready (rs := [8]) (by kernel_rfl) (by simp) ?_
            refine AllReadyIn.cons rfl (fun K hK => ?_) (AllReadyIn.nil)
            go_simp
            refine ⟨trivial, ?_⟩
            refine (callsIn_wide.2 (unhide H4)).mono ?_
            rintro e w6 ⟨A6, c6, rfl, o6, d6⟩
            have hy6 := unhide HY w6 (below_after hb5 d6)
            obtain ⟨fn, tmps, assign, body, hy, hR⟩ := unhide HYL w5 w6 A6 c6 ((below_drew V.heap.size V).trans hb5) d6 o6
            refine hK _ _ ?_
            clear hK K
            refine wpAnyIn_ready (rs := [9]) (by kernel_rfl) (by simp) ?_
            refine AllReadyIn.cons rfl (fun K hK => ?_) (AllReadyIn.nil)
            go_simp
            refine hR.mono ?_
            rintro e w7 ⟨b, rfl, ht, hf⟩
            refine hK _ _ ?_
            clear hK K
            refine wpAnyIn_take (i := 10) (v := .bool (!b)) rfl rfl (by kernel_rfl) (by kernel_rfl) (by kernel_rfl) (fun _ _ _ h => h) ⟨Or.inl ⟨by rfl, fun w => by go_simp⟩, fun _ => rfl⟩ ?_
            simp only [Act.put]
            refine wpAnyIn_take (i := 11) (v := .bool (!b)) rfl rfl (by kernel_rfl) (by kernel_rfl) (by kernel_rfl) (fun _ _ _ h => h) ⟨Or.inl ⟨by rfl, fun w => by go_simp⟩, fun _ => rfl⟩ ?_
            simp only [Act.put]
            refine wpAnyIn_done (by kernel_rfl) ?_ _
            cases b with
            | true =>
              have hend := ht rfl
              clear ht hf hR hy
              gi_wp2
              exact hend
            | false =>
              have hend := hf rfl
              clear ht hf hR hy
              gi_wp2
              exact ⟨hend.1, hend.2.1, rfl, hend.2.2⟩
          · skip
            go_simp
            refine ⟨trivial, ?_⟩
            refine (callsIn_wide.2 (unhide H4)).mono ?_
            rintro e w6 ⟨A6, c6, rfl, o6, d6⟩
            have hy6 := unhide HY w6 (below_after hb5 d6)
            obtain ⟨fn, tmps, assign, body, hy, hR⟩ := unhide HYL w5 w6 A6 c6 ((below_drew V.heap.size V).trans hb5) d6 o6
            refine hK _ _ ?_
            clear hK K
            refine wpAnyIn_ready (rs := [6]) (by kernel_rfl) (by simp) ?_
            refine AllReadyIn.cons rfl (fun K hK => ?_) (AllReadyIn.nil)
            go_simp
            refine hK _ _ ?_
            clear hK K
            refine wpAnyIn_ready (rs := [9]) (by kernel_rfl) (by simp) ?_
            refine AllReadyIn.cons rfl (fun K hK => ?_) (AllReadyIn.nil)
            go_simp
            refine hR.mono ?_
            rintro e w7 ⟨b, rfl, ht, hf⟩
            refine hK _ _ ?_
            clear hK K
            refine wpAnyIn_take (i := 10) (v := .bool (!b)) rfl rfl (by kernel_rfl) (by kernel_rfl) (by kernel_rfl) (fun _ _ _ h => h) ⟨Or.inl ⟨by rfl, fun w => by go_simp⟩, fun _ => rfl⟩ ?_
            simp only [Act.put]
            refine wpAnyIn_take (i := 11) (v := .bool (!b)) rfl rfl (by kernel_rfl) (by kernel_rfl) (by kernel_rfl) (fun _ _ _ h => h) ⟨Or.inl ⟨by rfl, fun w => by go_simp⟩, fun _ => rfl⟩ ?_
            simp only [Act.put]
            refine wpAnyIn_done (by kernel_rfl) ?_ _
            cases b with
            | true =>
              have hend := ht rfl
              clear ht hf hR hy
              gi_wp2
              exact hend
            | false =>
              have hend := hf rfl
              clear ht hf hR hy
              gi_wp2
              exact ⟨hend.1, hend.2.1, rfl, hend.2.2⟩
        · skip
          go_simp
          refine hK _ _ ?_
          clear hK K
          refine wpAnyIn_ready (rs := [2]) (by kernel_rfl) (by simp) ?_
          refine AllReadyIn.cons rfl (fun K hK => ?_) (AllReadyIn.nil)
          go_simp
          refine ⟨trivial, ?_⟩
          refine (callsIn_wide.2 (unhide H1)).mono ?_
          rintro e w4 ⟨A4, c4, rfl, o4, d4⟩
          have hq4 := unhide HQ w4 d4
          have H3 := hide (unhide H2 A4 c4 w4 o4 d4)
          refine hK _ _ ?_
          clear hK K
          refine wpAnyIn_ready (rs := [4]) (by kernel_rfl) (by simp) ?_
          refine AllReadyIn.cons rfl (fun K hK => ?_) (AllReadyIn.nil)
          go_simp
          refine ⟨trivial, ?_⟩
          refine (callsIn_wide.2 (unhide H3)).mono ?_
          rintro e w5 ⟨rfl, d5⟩
          have hb5 := d4.trans (d5.below _)
          have hy5 := unhide HY w5 hb5
          have H4 := hide (unhide HCL w5 hb5)
          refine hK _ _ ?_
          clear hK K
          refine wpAnyIn_take (i := 5) (v := .bool true) rfl rfl (by kernel_rfl) (by kernel_rfl) (by kernel_rfl) (fun _ _ _ h => h) ⟨Or.inl ⟨by rfl, fun w => by go_simp⟩, fun _ => rfl⟩ ?_
          simp only [Act.put]
          refine wpAnyIn_take (i := 7) (v := .slice (some ⟨g, 0, none⟩) n' n') rfl rfl (by kernel_rfl) (by kernel_rfl) (by kernel_rfl) (fun _ _ _ h => h) ⟨Or.inl ⟨by rfl, fun w => by go_simp⟩, fun _ => rfl⟩ ?_
          simp only [Act.put]
          refine wpAnyIn_ready (rs := [6, 8]) (by kernel_rfl) (by simp) ?_
          refine AllReadyIn.cons rfl (fun K hK => ?_) (AllReadyIn.cons rfl (fun K hK => ?_) (AllReadyIn.nil))
          · skip
            go_simp
            refine hK _ _ ?_
            clear hK K
            refine wpAnyIn_ready (rs := [8]) (by kernel_rfl) (by simp) ?_
            refine AllReadyIn.cons rfl (fun K hK => ?_) (AllReadyIn.nil)
            go_simp
            refine ⟨trivial, ?_⟩
            refine (callsIn_wide.2 (unhide H4)).mono ?_
            rintro e w6 ⟨A6, c6, rfl, o6, d6⟩
            have hy6 := unhide HY w6 (below_after hb5 d6)
            obtain ⟨fn, tmps, assign, body, hy, hR⟩ := unhide HYL w5 w6 A6 c6 ((below_drew V.heap.size V).trans hb5) d6 o6
            refine hK _ _ ?_
            clear hK K
            refine wpAnyIn_ready (rs := [9]) (by kernel_rfl) (by simp) ?_
            refine AllReadyIn.cons rfl (fun K hK => ?_) (AllReadyIn.nil)
            go_simp
            refine hR.mono ?_
            rintro e w7 ⟨b, rfl, ht, hf⟩
            refine hK _ _ ?_
            clear hK K
            refine wpAnyIn_take (i := 10) (v := .bool (!b)) rfl rfl (by kernel_rfl) (by kernel_rfl) (by kernel_rfl) (fun _ _ _ h => h) ⟨Or.inl ⟨by rfl, fun w => by go_simp⟩, fun _ => rfl⟩ ?_
            simp only [Act.put]
            refine wpAnyIn_take (i := 11) (v := .bool (!b)) rfl rfl (by kernel_rfl) (by kernel_rfl) (by kernel_rfl) (fun _ _ _ h => h) ⟨Or.inl ⟨by rfl, fun w => by go_simp⟩, fun _ => rfl⟩ ?_
            simp only [Act.put]
            refine wpAnyIn_done (by kernel_rfl) ?_ _
            cases b with
            | true =>
              have hend := ht rfl
              clear ht hf hR hy
              gi_wp2
              exact hend
            | false =>
              have hend := hf rfl
              clear ht hf hR hy
              gi_wp2
              exact ⟨hend.1, hend.2.1, rfl, hend.2.2⟩
          · skip
            go_simp
            refine ⟨trivial, ?_⟩
            refine (callsIn_wide.2 (unhide H4)).mono ?_
            rintro e w6 ⟨A6, c6, rfl, o6, d6⟩
            have hy6 := unhide HY w6 (below_after hb5 d6)
            obtain ⟨fn, tmps, assign, body, hy, hR⟩ := unhide HYL w5 w6 A6 c6 ((below_drew V.heap.size V).trans hb5) d6 o6
            refine hK _ _ ?_
            clear hK K
            refine wpAnyIn_ready (rs := [6]) (by kernel_rfl) (by simp) ?_
            refine AllReadyIn.cons rfl (fun K hK => ?_) (AllReadyIn.nil)
            go_simp
            refine hK _ _ ?_
            clear hK K
            refine wpAnyIn_ready (rs := [9]) (by kernel_rfl) (by simp) ?_
            refine AllReadyIn.cons rfl (fun K hK => ?_) (AllReadyIn.nil)
            go_simp
            refine hR.mono ?_
            rintro e w7 ⟨b, rfl, ht, hf⟩
            refine hK _ _ ?_
            clear hK K
            refine wpAnyIn_take (i := 10) (v := .bool (!b)) rfl rfl (by kernel_rfl) (by kernel_rfl) (by kernel_rfl) (fun _ _ _ h => h) ⟨Or.inl ⟨by rfl, fun w => by go_simp⟩, fun _ => rfl⟩ ?_
            simp only [Act.put]
            refine wpAnyIn_take (i := 11) (v := .bool (!b)) rfl rfl (by kernel_rfl) (by kernel_rfl) (by kernel_rfl) (fun _ _ _ h => h) ⟨Or.inl ⟨by rfl, fun w => by go_simp⟩, fun _ => rfl⟩ ?_
            simp only [Act.put]
            refine wpAnyIn_done (by kernel_rfl) ?_ _
            cases b with
            | true =>
              have hend := ht rfl
              clear ht hf hR hy
              gi_wp2
              exact hend
            | false =>
              have hend := hf rfl
              clear ht hf hR hy
              gi_wp2
              exact ⟨hend.1, hend.2.1, rfl, hend.2.2⟩
      · skip
        go_simp
        refine hK _ _ ?_
        clear hK K
        refine wpAnyIn_ready (rs := [0]) (by kernel_rfl) (by simp) ?_
        refine AllReadyIn.cons rfl (fun K hK => ?_) (AllReadyIn.nil)
        go_simp
        refine hK _ _ ?_
        clear hK K
        refine wpAnyIn_ready (rs := [2]) (by kernel_rfl) (by simp) ?_
        refine AllReadyIn.cons rfl (fun K hK => ?_) (AllReadyIn.nil)
        go_simp
        refine ⟨trivial, ?_⟩
        refine (callsIn_wide.2 (unhide H1)).mono ?_
        rintro e w4 ⟨A4, c4, rfl, o4, d4⟩
        have hq4 := unhide HQ w4 d4
        have H3 := hide (unhide H2 A4 c4 w4 o4 d4)
        refine hK _ _ ?_
        clear hK K
        refine wpAnyIn_ready (rs := [4]) (by kernel_rfl) (by simp) ?_
        refine AllReadyIn.cons rfl (fun K hK => ?_) (AllReadyIn.nil)
        go_simp
        refine ⟨trivial, ?_⟩
        refine (callsIn_wide.2 (unhide H3)).mono ?_
        rintro e w5 ⟨rfl, d5⟩
        have hb5 := d4.trans (d5.below _)
        have hy5 := unhide HY w5 hb5
        have H4 := hide (unhide HCL w5 hb5)
        refine hK _ _ ?_
        clear hK K
        refine wpAnyIn_take (i := 5) (v := .bool true) rfl rfl (by kernel_rfl) (by kernel_rfl) (by kernel_rfl) (fun _ _ _ h => h) ⟨Or.inl ⟨by rfl, fun w => by go_simp⟩, fun _ => rfl⟩ ?_
        simp only [Act.put]
        refine wpAnyIn_take (i := 7) (v := .slice (some ⟨g, 0, none⟩) n' n') rfl rfl (by kernel_rfl) (by kernel_rfl) (by kernel_rfl) (fun _ _ _ h => h) ⟨Or.inl ⟨by rfl, fun w => by go_simp⟩, fun _ => rfl⟩ ?_
        simp only [Act.put]
        refine wpAnyIn_ready (rs := [6, 8]) (by kernel_rfl) (by simp) ?_
        refine AllReadyIn.cons rfl (fun K hK => ?_) (AllReadyIn.cons rfl (fun K hK => ?_) (AllReadyIn.nil))
        · skip
          go_simp
          refine hK _ _ ?_
          clear hK K
          refine wpAnyIn_ready (rs := [8]) (by kernel_rfl) (by simp) ?_
          refine AllReadyIn.cons rfl (fun K hK => ?_) (AllReadyIn.nil)
          go_simp
          refine ⟨trivial, ?_⟩
          refine (callsIn_wide.2 (unhide H4)).mono ?_
          rintro e w6 ⟨A6, c6, rfl, o6, d6⟩
          have hy6 := unhide HY w6 (below_after hb5 d6)
          obtain ⟨fn, tmps, assign, body, hy, hR⟩ := unhide HYL w5 w6 A6 c6 ((below_drew V.heap.size V).trans hb5) d6 o6
          refine hK _ _ ?_
          clear hK K
          refine wpAnyIn_ready (rs := [9]) (by kernel_rfl) (by simp) ?_
          refine AllReadyIn.cons rfl (fun K hK => ?_) (AllReadyIn.nil)
          go_simp
          refine hR.mono ?_
          rintro e w7 ⟨b, rfl, ht, hf⟩
          refine hK _ _ ?_
          clear hK K
          refine wpAnyIn_take (i := 10) (v := .bool (!b)) rfl rfl (by kernel_rfl) (by kernel_rfl) (by kernel_rfl) (fun _ _ _ h => h) ⟨Or.inl ⟨by rfl, fun w => by go_simp⟩, fun _ => rfl⟩ ?_
          simp only [Act.put]
          refine wpAnyIn_take (i := 11) (v := .bool (!b)) rfl rfl (by kernel_rfl) (by kernel_rfl) (by kernel_rfl) (fun _ _ _ h => h) ⟨Or.inl ⟨by rfl, fun w => by go_simp⟩, fun _ => rfl⟩ ?_
          simp only [Act.put]
          refine wpAnyIn_done (by kernel_rfl) ?_ _
          cases b with
          | true =>
            have hend := ht rfl
            clear ht hf hR hy
            gi_wp2
            exact hend
          | false =>
            have hend := hf rfl
            clear ht hf hR hy
            gi_wp2
            exact ⟨hend.1, hend.2.1, rfl, hend.2.2⟩
        · skip
          go_simp
          refine ⟨trivial, ?_⟩
          refine (callsIn_wide.2 (unhide H4)).mono ?_
          rintro e w6 ⟨A6, c6, rfl, o6, d6⟩
          have hy6 := unhide HY w6 (below_after hb5 d6)
          obtain ⟨fn, tmps, assign, body, hy, hR⟩ := unhide HYL w5 w6 A6 c6 ((below_drew V.heap.size V).trans hb5) d6 o6
          refine hK _ _ ?_
          clear hK K
          refine wpAnyIn_ready (rs := [6]) (by kernel_rfl) (by simp) ?_
          refine AllReadyIn.cons rfl (fun K hK => ?_) (AllReadyIn.nil)
          go_simp
          refine hK _ _ ?_
          clear hK K
          refine wpAnyIn_ready (rs := [9]) (by kernel_rfl) (by simp) ?_
          refine AllReadyIn.cons rfl (fun K hK => ?_) (AllReadyIn.nil)
          go_simp
          refine hR.mono ?_
          rintro e w7 ⟨b, rfl, ht, hf⟩
          refine hK _ _ ?_
          clear hK K
          refine wpAnyIn_take (i := 10) (v := .bool (!b)) rfl rfl (by kernel_rfl) (by kernel_rfl) (by kernel_rfl) (fun _ _ _ h => h) ⟨Or.inl ⟨by rfl, fun w => by go_simp⟩, fun _ => rfl⟩ ?_
          simp only [Act.put]
          refine wpAnyIn_take (i := 11) (v := .bool (!b)) rfl rfl (by kernel_rfl) (by kernel_rfl) (by kernel_rfl) (fun _ _ _ h => h) ⟨Or.inl ⟨by rfl, fun w => by go_simp⟩, fun _ => rfl⟩ ?_
          simp only [Act.put]
          refine wpAnyIn_done (by kernel_rfl) ?_ _
          cases b with
          | true =>
            have hend := ht rfl
            clear ht hf hR hy
            gi_wp2
            exact hend
          | false =>
            have hend := hf rfl
            clear ht hf hR hy
            gi_wp2
            exact ⟨hend.1, hend.2.1, rfl, hend.2.2⟩
--END-YES
    · have hdec : decide (patA p pl = q) = false := by simpa using hyes
      have H2 := hide (show ∀ (A4 : Option Addr) (c4 : Nat) (w4 : World), Ints w4 V.drew.heap.size (.slice A4 (patA p pl).length c4) (patA p pl) → Below V.drew.heap.size V.drew w4 → Calls Tryd.prog 69 #[.slice A4 (patA p pl).length c4, .slice A' n' c'] w4 fun e w' => e = .returned (.bool false) ∧ Drew w4 w' from fun A4 c4 w4 h1 h2 =>
        eqsl_any A4 A' _ c4 _ n' c' B' (patA p pl) q false hdec w4 (h1.arg (by unfold patA; rw [patL_length, nums_length]; omega) h1.cap (patA_small hp (e1.symm ▸ hok))) (hAtV.q.below h2))
      have HQ := hide (show ∀ w4, Below V.drew.heap.size V.drew w4 → w4.cell? ⟨bq, 0, none⟩ = some (.slice A' n' c') from fun w4 h => Boxed.cell (boxed_later hAtV.bq h))
      have HEND := hide (show ∀ w5, Below V.heap.size V w5 → (∀ r, Desk w2.heap.size r V → Desk w2.heap.size r w5) ∧ (V.heap.size ≤ w5.heap.size ∧ w5.heap[g]? = V.heap[g]?) ∧ ∃ xs, (J xs w5 ∧ xs.map (·.2) = (pre ++ [pl]).filter (fun pl => decide (patA p pl = q))) ∧ AtO A A' n c B n' c' B' p q bp bq (w.heap.size + 2) l w5 ∧ AllIn p q xs from fun w5 h =>
        ⟨fun r hd => hd.later h, ⟨h.size, h.block g hbuf.lt⟩, ⟨xs, ⟨(unhide HBD).2.1 _ _ _ hJV (But.of_below h), by rw [List.filter_append, hxs]; simp [hyes]⟩, hAtV0.below h, hall⟩⟩)
      have HG := hide (⟨hg, hs3⟩ : g = w2.heap.size + 2 ∧ w2.heap.size = w.heap.size + 5)
      clear hseq hAtU hAtV hAtV0 hApl hJU hJV hbuf hxs hall hyes hg hs3
      gi_wp2_with fail
      refine region_round l2 rfl (by kernel_rfl) hmx ?_
      change wpAnyIn _ _ _ _ _ _ _ _ _ (World.drew _)
--REGION-NO
      refine wpAnyIn_take (i := 1) (v := .slice (some ⟨g, 0, none⟩) n' n') rfl rfl (by kernel_rfl) (by kernel_rfl) (by kernel_rfl) (fun _ _ _ h => h) ⟨Or.inl ⟨by rfl, fun w => by go_simp⟩, fun _ => rfl⟩ ?_
      simp only [Act.put]
      refine wpAnyIn_ready (rs := [0, 3]) (by kernel_rfl) (by simp) ?_
      refine AllReadyIn.cons rfl (fun K hK => ?_) (AllReadyIn.cons rfl (fun K hK => ?_) (AllReadyIn.nil))
      · skip
        go_simp
        refine hK _ _ ?_
        clear hK K
        refine wpAnyIn_ready (rs := [2, 3]) (by kernel_rfl) (by simp) ?_
        refine AllReadyIn.cons rfl (fun K hK => ?_) (AllReadyIn.cons rfl (fun K hK => ?_) (AllReadyIn.nil))
        · skip
          go_simp
          refine ⟨trivial, ?_⟩
          refine (callsIn_wide.2 (unhide H1)).mono ?_
          rintro e w4 ⟨A4, c4, rfl, o4, d4⟩
          have hq4 := unhide HQ w4 d4
          have H3 := hide (unhide H2 A4 c4 w4 o4 d4)
          refine hK _ _ ?_
          clear hK K
          refine wpAnyIn_ready (rs := [3]) (by kernel_rfl) (by simp) ?_
          refine AllReadyIn.cons rfl (fun K hK => ?_) (AllReadyIn.nil)
          go_simp
          refine hK _ _ ?_
          clear hK K
          refine wpAnyIn_ready (rs := [4]) (by kernel_rfl) (by simp) ?_
          refine AllReadyIn.cons rfl (fun K hK => ?_) (AllReadyIn.nil)
          go_simp
          refine ⟨trivial, ?_⟩
          refine (callsIn_wide.2 (unhide H3)).mono ?_
          rintro e w5 ⟨rfl, d5⟩
          refine hK _ _ ?_
          clear hK K
          refine wpAnyIn_take (i := 5) (v := .bool false) rfl rfl (by kernel_rfl) (by kernel_rfl) (by kernel_rfl) (fun _ _ _ h => h) ⟨Or.inl ⟨by rfl, fun w => by go_simp⟩, fun _ => rfl⟩ ?_
          simp only [Act.put]
          refine wpAnyIn_take (i := 6) (v := undef) rfl rfl (by kernel_rfl) (by kernel_rfl) (by kernel_rfl) (fun _ _ _ h => h) ⟨Or.inr ⟨by rfl, rfl⟩, fun _ => rfl⟩ ?_
          simp only [Act.put]
          refine wpAnyIn_take (i := 7) (v := undef) rfl rfl (by kernel_rfl) (by kernel_rfl) (by kernel_rfl) (fun _ _ _ h => h) ⟨Or.inr ⟨by rfl, rfl⟩, fun _ => rfl⟩ ?_
          simp only [Act.put]
          refine wpAnyIn_ready (rs := [8]) (by kernel_rfl) (by simp) ?_
          refine AllReadyIn.cons rfl (fun K hK => ?_) (AllReadyIn.nil)
          go_simp
          refine ⟨trivial, hK _ _ ?_⟩
          clear hK K
          refine wpAnyIn_ready (rs := [9]) (by kernel_rfl) (by simp) ?_
          refine AllReadyIn.cons rfl (fun K hK => ?_) (AllReadyIn.nil)
          go_simp
          first | refine hK _ _ ?_ | refine ⟨fun _ h => (by cases h), hK _ _ ?_⟩
          clear hK K
          refine wpAnyIn_ready (rs := [10]) (by kernel_rfl) (by simp) ?_
          refine AllReadyIn.cons rfl (fun K hK => ?_) (AllReadyIn.nil)
          go_simp
          refine hK _ _ ?_
          clear hK K
          refine wpAnyIn_take (i := 11) (v := .bool false) rfl rfl (by kernel_rfl) (by kernel_rfl) (by kernel_rfl) (fun _ _ _ h => h) ⟨Or.inl ⟨by rfl, fun w => by go_simp⟩, fun _ => rfl⟩ ?_
          simp only [Act.put]
          refine wpAnyIn_done (by kernel_rfl) ?_ _
          have hend := unhide HEND w5 (((below_drew V.heap.size V).trans d4).trans (d5.below _))
          gi_wp2
          exact hend
        · skip
          go_simp
          refine hK _ _ ?_
          clear hK K
          refine wpAnyIn_ready (rs := [2]) (by kernel_rfl) (by simp) ?_
          refine AllReadyIn.cons rfl (fun K hK => ?_) (AllReadyIn.nil)
          go_simp
          refine ⟨trivial, ?_⟩
          refine (callsIn_wide.2 (unhide H1)).mono ?_
          rintro e w4 ⟨A4, c4, rfl, o4, d4⟩
          have hq4 := unhide HQ w4 d4
          have H3 := hide (unhide H2 A4 c4 w4 o4 d4)
          refine hK _ _ ?_
          clear hK K
          refine wpAnyIn_ready (rs := [4]) (by kernel_rfl) (by simp) ?_
          refine AllReadyIn.cons rfl (fun K hK => ?_) (AllReadyIn.nil)
          go_simp
          refine ⟨trivial, ?_⟩
          refine (callsIn_wide.2 (unhide H3)).mono ?_
          rintro e w5 ⟨rfl, d5⟩
          refine hK _ _ ?_
          clear hK K
          refine wpAnyIn_take (i := 5) (v := .bool false) rfl rfl (by kernel_rfl) (by kernel_rfl) (by kernel_rfl) (fun _ _ _ h => h) ⟨Or.inl ⟨by rfl, fun w => by go_simp⟩, fun _ => rfl⟩ ?_
          simp only [Act.put]
          refine wpAnyIn_take (i := 6) (v := undef) rfl rfl (by kernel_rfl) (by kernel_rfl) (by kernel_rfl) (fun _ _ _ h => h) ⟨Or.inr ⟨by rfl, rfl⟩, fun _ => rfl⟩ ?_
          simp only [Act.put]
          refine wpAnyIn_take (i := 7) (v := undef) rfl rfl (by kernel_rfl) (by kernel_rfl) (by kernel_rfl) (fun _ _ _ h => h) ⟨Or.inr ⟨by rfl, rfl⟩, fun _ => rfl⟩ ?_
          simp only [Act.put]
          refine wpAnyIn_ready (rs := [8]) (by kernel_rfl) (by simp) ?_
          refine AllReadyIn.cons rfl (fun K hK => ?_) (AllReadyIn.nil)
          go_simp
          refine ⟨trivial, hK _ _ ?_⟩
          clear hK K
          refine wpAnyIn_ready (rs := [9]) (by kernel_rfl) (by simp) ?_
          refine AllReadyIn.cons rfl (fun K hK => ?_) (AllReadyIn.nil)
          go_simp
          first | refine hK _ _ ?_ | refine ⟨fun _ h => (by cases h), hK _ _ ?_⟩
          clear hK K
          refine wpAnyIn_ready (rs := [10]) (by kernel_rfl) (by simp) ?_
          refine AllReadyIn.cons rfl (fun K hK => ?_) (AllReadyIn.nil)
          go_simp
          refine hK _ _ ?_
          clear hK K
          refine wpAnyIn_take (i := 11) (v := .bool false) rfl rfl (by kernel_rfl) (by kernel_rfl) (by kernel_rfl) (fun _ _ _ h => h) ⟨Or.inl ⟨by rfl, fun w => by go_simp⟩, fun _ => rfl⟩ ?_
          simp only [Act.put]
          refine wpAnyIn_done (by kernel_rfl) ?_ _
          have hend := unhide HEND w5 (((below_drew V.heap.size V).trans d4).trans (d5.below _))
          gi_wp2
          exact hend
      · skip
        go_simp
        refine hK _ _ ?_
        clear hK K
        refine wpAnyIn_ready (rs := [0]) (by kernel_rfl) (by simp) ?_
        refine AllReadyIn.cons rfl (fun K hK => ?_) (AllReadyIn.nil)
        go_simp
        refine hK _ _ ?_
        clear hK K
        refine wpAnyIn_ready (rs := [2]) (by kernel_rfl) (by simp) ?_
        refine AllReadyIn.cons rfl (fun K hK => ?_) (AllReadyIn.nil)
        go_simp
        refine ⟨trivial, ?_⟩
        refine (callsIn_wide.2 (unhide H1)).mono ?_
        rintro e w4 ⟨A4, c4, rfl, o4, d4⟩
        have hq4 := unhide HQ w4 d4
        have H3 := hide (unhide H2 A4 c4 w4 o4 d4)
        refine hK _ _ ?_
        clear hK K
        refine wpAnyIn_ready (rs := [4]) (by kernel_rfl) (by simp) ?_
        refine AllReadyIn.cons rfl (fun K hK => ?_) (AllReadyIn.nil)
        go_simp
        refine ⟨trivial, ?_⟩
        refine (callsIn_wide.2 (unhide H3)).mono ?_
        rintro e w5 ⟨rfl, d5⟩
        refine hK _ _ ?_
        clear hK K
        refine wpAnyIn_take (i := 5) (v := .bool false) rfl rfl (by kernel_rfl) (by kernel_rfl) (by kernel_rfl) (fun _ _ _ h => h) ⟨Or.inl ⟨by rfl, fun w => by go_simp⟩, fun _ => rfl⟩ ?_
        simp only [Act.put]
        refine wpAnyIn_take (i := 6) (v := undef) rfl rfl (by kernel_rfl) (by kernel_rfl) (by kernel_rfl) (fun _ _ _ h => h) ⟨Or.inr ⟨by rfl, rfl⟩, fun _ => rfl⟩ ?_
        simp only [Act.put]
        refine wpAnyIn_take (i := 7) (v := undef) rfl rfl (by kernel_rfl) (by kernel_rfl) (by kernel_rfl) (fun _ _ _ h => h) ⟨Or.inr ⟨by rfl, rfl⟩, fun _ => rfl⟩ ?_
        simp only [Act.put]
        refine wpAnyIn_ready (rs := [8]) (by kernel_rfl) (by simp) ?_
        refine AllReadyIn.cons rfl (fun K hK => ?_) (AllReadyIn.nil)
        go_simp
        refine ⟨trivial, hK _ _ ?_⟩
        clear hK K
        refine wpAnyIn_ready (rs := [9]) (by kernel_rfl) (by simp) ?_
        refine AllReadyIn.cons rfl (fun K hK => ?_) (AllReadyIn.nil)
        go_simp
        first | refine hK _ _ ?_ | refine ⟨fun _ h => (by cases h), hK _ _ ?_⟩
        clear hK K
        refine wpAnyIn_ready (rs := [10]) (by kernel_rfl) (by simp) ?_
        refine AllReadyIn.cons rfl (fun K hK => ?_) (AllReadyIn.nil)
        go_simp
        refine hK _ _ ?_
        clear hK K
        refine wpAnyIn_take (i := 11) (v := .bool false) rfl rfl (by kernel_rfl) (by kernel_rfl) (by kernel_rfl) (fun _ _ _ h => h) ⟨Or.inl ⟨by rfl, fun w => by go_simp⟩, fun _ => rfl⟩ ?_
        simp only [Act.put]
        refine wpAnyIn_done (by kernel_rfl) ?_ _
        have hend := unhide HEND w5 (((below_drew V.heap.size V).trans d4).trans (d5.below _))
        gi_wp2
        exact hend
--END-NO
  case done =>
    rintro pls V rfl ⟨xs, ⟨hJV, hxs⟩, hAtV, hall⟩ hK
    rw [← e1, ← e2, unhide HFI] at hxs
    have hJD := (unhide HBD).2.1 _ _ _ hJV (But.putObj V (k := w2.heap.size) (by omega) (by omega) (.deferred none))
    gi_wp2
    refine ⟨by simp, .inl ⟨_, _, rfl, run_takeDeferred hK, ?_⟩⟩
    refine ⟨_, results_none rfl _ _ _, ?_⟩
    exact ⟨⟨_, rfl⟩, .inl ⟨xs, hxs, hJD⟩⟩
  case stop =>
    rintro c pre V _ ⟨rfl, xs, hJV, hall⟩ hK
    have hJD := (unhide HBD).2.2 _ _ _ hJV (But.putObj V (k := w2.heap.size) (by omega) (by omega) (.deferred none))
    gi_wp2
    refine ⟨by simp, .inl ⟨_, _, rfl, run_takeDeferred hK, ?_⟩⟩
    refine ⟨_, results_none rfl _ _ _, ?_⟩
    exact ⟨⟨_, rfl⟩, .inr ⟨xs, hall, hJD⟩⟩
end Go.Proofs.YtabfjmabiapgoaaDoor


/-
  impl.CountNear: a loop over the occurrences that counts those whose joined places are side by side.
-/

namespace Go.Proofs.YtabfjmabiapgoaaDoor
set_option maxRecDepth 100000
open Go.RowKit Go.Shelf
attribute [local go_sem] Oper.semAt_some

theorem chR_room_all8 : ∀ n, n < 9 → ∀ k, k < 9 → (chR n k).length ≤ 256 := by decide +kernel
theorem chR_room8 {n k : Nat} (hn : n ≤ 8) (hk : k ≤ 8) : (chR n k).length ≤ 256 := chR_room_all8 n (by omega) k (by omega)
/-- How many of these fit. -/
def fitN (J : List Int) (xs : List (Value × List Int)) : Nat := (xs.filter fun x => fitJ J x.2).length
theorem fitN_snoc_yes {J : List Int} {xs : List (Value × List Int)} {x : Value × List Int} (h : fitJ J x.2 = true) : fitN J (xs ++ [x]) = fitN J xs + 1 := by unfold fitN; simp [h]
theorem fitN_snoc_no {J : List Int} {xs : List (Value × List Int)} {x : Value × List Int} (h : fitJ J x.2 = false) : fitN J (xs ++ [x]) = fitN J xs := by unfold fitN; simp [h]
theorem fitN_le (J : List Int) (xs : List (Value × List Int)) : fitN J xs ≤ xs.length := List.length_filter_le _ _
theorem fitN_all {J p q : List Int} {xs : List (Value × List Int)} (h : xs.map (·.2) = occR p q) : fitN J xs = (nearR p q J).length := by
  unfold fitN nearR
  rw [← h, List.filter_map, List.length_map]
  rfl
theorem occ_small {p q pl : List Int} (h : pl ∈ occR p q) : pl.length = q.length ∧ ∀ x ∈ pl, 1 ≤ x ∧ x ≤ 8 := by
  obtain ⟨hp, _, h1, h2, _⟩ := isOcc_iff.1 (mem_occ.1 h)
  have := isP_le hp
  exact ⟨h1, fun x hx => by have := h2.1 x hx; omega⟩
set_option maxRecDepth 100000 in
set_option maxHeartbeats 4000000 in
theorem cntn_yes (A A' P : Option Addr) (n c B n' c' B' m d B2 : Nat) (p q J : List Int) (w : World) (h : Arg w B A n c p) (h' : Arg w B' A' n' c' q) (h2 : Arg w B2 P m d J) (hp : isP p = true) (hok : nearOK q J = true) :
    Calls Tryd.prog 7 #[.slice A n c, .agg #[.slice A' n' c', .slice P m d]] w (GivesN w ((nearR p q J).length : Nat)) := by
  obtain ⟨hq, hJ⟩ := nearOK_iff.1 hok
  have hl' := h'.len
  have hn8 : n ≤ 8 := by have := isP_le hp; have := h.len; omega
  have hn8' : n' ≤ 8 := by have := isP_le hq; omega
  have hBu := h.under
  have hBu' := h'.under
  have hJ8 : ∀ x ∈ J, 0 ≤ x ∧ x ≤ 8 := fun x hx => by have := hJ.1 x hx; omega
  obtain ⟨w0, hw0⟩ : ∃ w0, w0 = w.alloc (.cells #[.slice A' n' c', .slice P m d] 26) := ⟨_, rfl⟩
  have b0 : Below w.heap.size w w0 := by rw [hw0]; exact (Below.refl _ w).alloc (Nat.le_refl _) _
  have g0 : Whole w0 w.heap.size 26 #[.slice A' n' c', .slice P m d] := by rw [hw0]; exact Whole.new _ _ _
  have H1 := hide (iisperm_any A n c B p true hp w0 (h.below b0).reads (h.below b0).under h.le h.small)
  have H2 := hide (show ∀ w1, Below w.heap.size w w1 → _ from fun w1 d1 => inear_any A' P n' c' B' m d B2 q J w1 (h'.below d1) (h2.below d1))
  have H3 := hide (show ∀ w2, Below w.heap.size w w2 → _ from fun w2 d2 => jots_any P m d B2 J w2 (h2.below d2) hJ8)
  have H4 := hide (fun w2 => iocs_made A A' n c n' c' w2)
  rw [hok] at H2
  have HT := hide (show ∀ w5, Below w.heap.size w w5 → ∀ bc, bc + 1 = w5.heap.size → w.heap.size < bc → TellsZ Fence.wide 3 Tryd.prog 67 #[.pointer (some ⟨w5.heap.size, 0, none⟩), .pointer (some ⟨w5.heap.size + 1, 0, none⟩)] 6 (fun x : Value × List Int => #[x.1]) (KnO p q)
      (Keep (fun k => k < bc + 11 ∧ k ≠ bc ∧ k ≠ bc + 3 ∧ k ≠ bc + 4)) (fun xs => xs.map (·.2) = occR p q) (AllIn p q) 256 ((w5.alloc (.cells #[.slice A n c] 24)).alloc (.cells #[.slice A' n' c'] 24)) from fun w2 d2 bc hbc hlt => by
    have d3 : Below w2.heap.size w2 ((w2.alloc (.cells #[.slice A n c] 24)).alloc (.cells #[.slice A' n' c'] 24)) := ((Below.refl _ w2).alloc (Nat.le_refl _) _).alloc (by simp) _
    have b2 := Boxed.new (w2.alloc (.cells #[.slice A n c] 24)) 24 (.slice A' n' c')
    rw [World.size_alloc] at b2
    exact occ_tell A A' n c B n' c' B' p q hp hq _ w2.heap.size (w2.heap.size + 1) 256 _ (h.below (below_after d2 d3)) (h'.below (below_after d2 d3)) (Boxed.alloc (Boxed.new w2 _ _) _) b2
      ⟨fun k hk => by omega, fun k hk => by omega, by omega, by omega, fun k h1 h2 => by simp at h1 h2; omega⟩ 3 (chR_room8 hn8 hn8'))
  have HF := hide (show ∀ (V : World) (u : Value) (zs : List Int) (B9 : Nat), Ints V B9 u zs → zs ∈ occR p q → ∃ A9 c9, u = .slice A9 n' c9 ∧ Calls Tryd.prog 34 #[.int .u64 (jB J : Nat), .slice A9 n' c9] V fun e w' => e = .returned (.bool (fitJ J zs)) ∧ Drew V w' from fun V u zs B9 hI hin => by
    obtain ⟨A9, c9, rfl⟩ := hI.slice
    obtain ⟨e1, e2⟩ := occ_small hin
    have e3 : zs.length = n' := e1.trans hl'
    have ha := hI.arg (by omega) hI.cap fun z hz => by have := e2 z hz; omega
    rw [e3] at ha
    exact ⟨A9, c9, by rw [e3], jfit_any A9 n' c9 _ zs J V ha (by rw [← hl']; exact hJ) e2 hn8'⟩)
  refine (callsIn_wide (n := 4)).1 ?_
  refine callsIn_of_wp_marks Tryd.func7 rfl trivial ?_ rfl
  simp only [Tryd.ntmps7, List.size_toArray, List.length_cons, List.length_nil, Nat.reduceAdd, Nat.reduceSub, Array.replicate_succ, Array.replicate_zero, List.push_toArray, List.append_toArray, List.nil_append, List.cons_append]
  have HW0 := hide hw0
  clear h h' h2 hp hq hok hJ hJ8 hBu hBu' hl' hw0
  gi_wp2_with fail
  rw [← unhide HW0]
  refine ⟨trivial, ?_⟩
  refine (callsIn_wide.2 (unhide H1)).mono ?_
  rintro e w1 ⟨rfl, d1⟩
  have d1' := below_after b0 d1
  have g1 := g0.below d1 g0.lt
  have x0 := g1.cell 0
  have x1 := g1.cell 1
  simp only [List.getElem?_toArray, List.getElem?_cons_zero, List.getElem?_cons_succ] at x0 x1
  have HX := hide (unhide H2 w1 d1')
  clear H1 H2 g0 b0 d1 HW0
  gi_wp2_with fail
  refine ⟨trivial, ?_⟩
  refine (callsIn_wide.2 (unhide HX)).mono ?_
  rintro e w2 ⟨rfl, d2⟩
  have d2' := below_after d1' d2
  have g2 := g1.below d2 g1.lt
  have y0 := g2.cell 0
  have y1 := g2.cell 1
  simp only [List.getElem?_toArray, List.getElem?_cons_zero, List.getElem?_cons_succ] at y0 y1
  have HY := hide (unhide H3 w2 d2')
  clear HX H3 d1' d2 g1 x0 x1
  gi_wp2_with fail
  refine ⟨trivial, ?_⟩
  refine (callsIn_wide.2 (unhide HY)).mono ?_
  rintro e w3 ⟨rfl, d3⟩
  have d3' := d2'.trans (d3.below _)
  have g3 : Whole w3 w.heap.size 26 #[.slice A' n' c', .slice P m d] := g2.below (d3.below (w.heap.size + 1)) (Nat.lt_succ_self _)
  obtain ⟨bj, hbj⟩ : ∃ b, b = w3.heap.size := ⟨_, rfl⟩
  have hbjw : w.heap.size < bj := by have := g3.lt; omega
  obtain ⟨s, hs⟩ : ∃ s, s = jB J := ⟨_, rfl⟩
  obtain ⟨w5, hw5⟩ : ∃ w5, w5 = (w3.alloc (.cells #[.int .u64 (s : Nat)] 49)).alloc (.cells #[.int .i64 0] 3) := ⟨_, rfl⟩
  have hs5 : w5.heap.size = bj + 2 := by rw [hw5]; simp [hbj]
  have b35 : Below w3.heap.size w3 w5 := by rw [hw5]; exact ((Below.refl _ w3).alloc (Nat.le_refl _) _).alloc (by simp) _
  have d5 := below_after d3' b35
  have g5 := g3.below b35 g3.lt
  have cj5 : Boxed w5 bj 49 (.int .u64 (s : Nat)) := by rw [hw5, hbj]; exact Boxed.alloc (Boxed.new w3 _ _) _
  have cc5 : Boxed w5 (bj + 1) 3 (.int .i64 0) := by
    have := Boxed.new (w3.alloc (.cells #[.int .u64 (s : Nat)] 49)) 3 (.int .i64 0)
    rw [World.size_alloc, ← hbj] at this
    rw [hw5]; exact this
  have z0 := g5.cell 0
  simp only [List.getElem?_toArray, List.getElem?_cons_zero] at z0
  rw [hw5] at z0
  have HS := hide hs
  have HW5 := hide hw5
  have HG5 := hide (⟨d5, cj5, cc5, hs5⟩ : Below w.heap.size w w5 ∧ Boxed w5 bj 49 (.int .u64 (s : Nat)) ∧ Boxed w5 (bj + 1) 3 (.int .i64 0) ∧ w5.heap.size = bj + 2)
  have HBJ := hide hbj
  rw [← hs]
  clear HY d2' g2 y0 y1 d3 d3' g3 b35 d5 g5 cj5 cc5 hs5 hw5 hs hbj
  gi_wp2_with fail
  refine ⟨trivial, ?_⟩
  refine (callsIn_wide.2 (unhide H4 _)).mono ?_
  rintro e w6 ⟨rfl, hw6⟩
  rw [← unhide HW5] at hw6
  obtain ⟨d5, cj5, cc5, hs5⟩ := unhide HG5
  have hseq := unhide HT w5 d5 (bj + 1) (by omega) (by omega)
  rw [← unhide HW5, ← unhide HBJ, hs5]
  rw [← hw6, hs5] at hseq
  have hs6 : w6.heap.size = bj + 4 := by rw [hw6]; simp [hs5]
  have cj6 : Boxed w6 bj 49 (.int .u64 (s : Nat)) := by rw [hw6]; exact Boxed.alloc (Boxed.alloc cj5 _) _
  have cc6 : Boxed w6 (bj + 1) 3 (.int .i64 0) := by rw [hw6]; exact Boxed.alloc (Boxed.alloc cc5 _) _
  have d6 : Below w.heap.size w w6 := below_after d5 (by rw [hw6]; exact ((Below.refl _ w5).alloc (Nat.le_refl _) _).alloc (by simp) _)
  rw [unhide HS] at cj6
  rw [unhide HS]
  clear H4 HT HW5 HBJ HG5 hw6 d5 cj5 cc5 hs5 z0 HS
  gi_wp2
  refine range_zone rfl (by decide) (gf := 67) (lb := #[.pointer (some ⟨bj + 2, 0, none⟩), .pointer (some ⟨bj + 2 + 1, 0, none⟩)]) rfl trivial (enters_of Tryd.func67 (by kernel_rfl) rfl)
    hseq (fun h k => h.trans k) (fun W r r' hd => Keep.putObj W (by omega) _) (fun _ => rfl) (fun U V x r r' hdU hdV h => ⟨kn_row _ U V x r r' hdU hdV h.1, h.2⟩)
    (fun pre V => Boxed V bj 49 (.int .u64 (jB J : Nat)) ∧ Boxed V (bj + 1) 3 (.int .i64 (fitN J pre : Nat)) ∧ Below w.heap.size w V ∧ bj + 4 ≤ V.heap.size)
    (fun _ _ _ => False)
    (fun pre U V h hb' => ⟨Boxed.but h.1 hb' (by omega), Boxed.but h.2.1 hb' (by omega), h.2.2.1.trans (hb'.below (by omega) (by have := h.2.2.2; omega)), Nat.le_trans h.2.2.2 hb'.size⟩)
    (fun _ _ _ _ h _ => h)
    ⟨cj6, cc6, d6, by omega⟩
    (fun x => { tmps := #[.slice A n c, .agg #[.slice A' n' c', .slice P m d], undef, .pointer (some ⟨w.heap.size, 0, none⟩), .int .i64 0, .pointer (some ⟨bj, 0, none⟩), .pointer (some ⟨bj + 1, 0, none⟩), x.1, .slice A n c, .bool true, .bool false, .bool false,
      .agg #[.slice A' n' c', .slice P m d], .bool true, .bool false, .bool false, .pointer (some ⟨w.heap.size, 1, none⟩), .slice P m d, .int .u64 (jB J : Nat), .slice A n c, .pointer (some ⟨w.heap.size, 0, none⟩), .slice A' n' c',
      .func (.func 67) #[] #[.pointer (some ⟨bj + 2, 0, none⟩), .pointer (some ⟨bj + 2 + 1, 0, none⟩)], x.1, undef, undef, undef, undef, undef, undef], defers := [] }) ?assign ?body ?done ?stop
  case assign =>
    intro l x W K hK
    gi_wp2
    exact hK
  case body =>
    rintro l pre ⟨u, zs⟩ U W ⟨hjU, hcU, hBU, hsU⟩ hzU hbU ⟨hkn, hin⟩ hlen
    dsimp only at hkn hin ⊢
    obtain ⟨A9, c9, rfl, HF9⟩ := unhide HF W u zs _ hkn hin
    have HC := hide HF9
    have hj := boxed_later hjU hbU
    have hc := boxed_later hcU hbU
    have hBW := below_after hBU hbU
    have hsW := Nat.le_trans hsU hbU.size
    obtain ⟨bf, hbf⟩ : ∃ b, fitJ J zs = b := ⟨_, rfl⟩
    rw [hbf] at HC
    have hcj := hj.cell
    have hle := fitN_le J pre
    have HI := hide (⟨hj, hc, hBW, hsW⟩ : Boxed W bj 49 (.int .u64 (jB J : Nat)) ∧ Boxed W (bj + 1) 3 (.int .i64 (fitN J pre : Nat)) ∧ Below w.heap.size w W ∧ bj + 4 ≤ W.heap.size)
    have HFY := hide (show bf = true → fitN J (pre ++ [((.slice A9 n' c9 : Value), zs)]) = fitN J pre + 1 from fun h => fitN_snoc_yes (by rw [← h]; exact hbf))
    have HFN := hide (show bf = false → fitN J (pre ++ [((.slice A9 n' c9 : Value), zs)]) = fitN J pre from fun h => fitN_snoc_no (by rw [← h]; exact hbf))
    have HS6 := hide hs6
    clear hj hc hBW hsW hjU hcU hBU hsU hkn hin HF9 hbf hseq d6 cj6 cc6 hs6
    gi_wp2_with fail
    refine ⟨trivial, ?_⟩
    refine ((callsIn_wide.2 (unhide HC)).inRound l).mono ?_
    rintro e W2 ⟨rfl, dW⟩
    obtain ⟨hj, hc, hBW, hsW⟩ := unhide HI
    have dW' := dW.below W.heap.size
    have hj2 := boxed_later hj dW'
    have hc2 := boxed_later hc dW'
    have hB2 := hBW.trans (dW.below w.heap.size)
    have hs2 : bj + 4 ≤ W2.heap.size := by rw [dW.size]; exact hsW
    cases bf with
    | false =>
      have hend : (∀ r, Desk w6.heap.size r W → Desk w6.heap.size r W2) ∧ Keep (fun k => k < bj + 1 + 11 ∧ k ≠ bj + 1 ∧ k ≠ bj + 1 + 3 ∧ k ≠ bj + 1 + 4) W W2 ∧ Boxed W2 bj 49 (.int .u64 (jB J : Nat)) ∧ Boxed W2 (bj + 1) 3 (.int .i64 (fitN J (pre ++ [((.slice A9 n' c9 : Value), zs)]) : Nat)) ∧ Below w.heap.size w W2 ∧ bj + 4 ≤ W2.heap.size :=
        ⟨fun r hd => hd.later dW', Keep.of_below dW', hj2, by rw [unhide HFN rfl]; exact hc2, hB2, hs2⟩
      have HEND := hide hend
      clear hend hj hc hBW hsW dW dW' hj2 hc2 hB2 hs2 HI HFY HFN HC
      gi_wp2
      exact unhide HEND
    | true =>
      have hcell := hc2.cell
      have hfz := hc2.frozen
      have hg := grownBy_setCell' W2 (bj + 1) (.int .i64 ((fitN J pre : Nat) + 1))
      have hg1 := hg.size
      have h6 := unhide HS6
      have hend : (∀ r, Desk w6.heap.size r W → Desk w6.heap.size r (W2.setCell ⟨bj + 1, 0, none⟩ (.int .i64 ((fitN J pre : Nat) + 1)))) ∧ Keep (fun k => k < bj + 1 + 11 ∧ k ≠ bj + 1 ∧ k ≠ bj + 1 + 3 ∧ k ≠ bj + 1 + 4) W (W2.setCell ⟨bj + 1, 0, none⟩ (.int .i64 ((fitN J pre : Nat) + 1))) ∧ Boxed (W2.setCell ⟨bj + 1, 0, none⟩ (.int .i64 ((fitN J pre : Nat) + 1))) bj 49 (.int .u64 (jB J : Nat)) ∧
          Boxed (W2.setCell ⟨bj + 1, 0, none⟩ (.int .i64 ((fitN J pre : Nat) + 1))) (bj + 1) 3 (.int .i64 (fitN J (pre ++ [((.slice A9 n' c9 : Value), zs)]) : Nat)) ∧ Below w.heap.size w (W2.setCell ⟨bj + 1, 0, none⟩ (.int .i64 ((fitN J pre : Nat) + 1))) ∧ bj + 4 ≤ (W2.setCell ⟨bj + 1, 0, none⟩ (.int .i64 ((fitN J pre : Nat) + 1))).heap.size :=
        ⟨fun r hd => by
          have hd2 := hd.later dW'
          exact ⟨(hg.block _ hd2.lt (by simp; omega)).trans hd2.rec_, (hg.block _ (by have := hd2.lt; omega) (by simp; omega)).trans hd2.marks⟩,
         (Keep.of_below dW').trans (Keep.setCell W2 (by omega) _), (hg.block _ hj2.lt (by simp)).trans hj2, by rw [unhide HFY rfl]; exact Boxed.set _ hc2, hB2.setCell (p := ⟨bj + 1, 0, none⟩) (by show w.heap.size ≤ bj + 1; omega) _, by omega⟩
      have hwr : IntKind.i64.wrap ((fitN J pre : Nat) + 1) = ((fitN J pre : Nat) : Int) + 1 := by rw [IntKind.wrap_i64]; omega
      have HEND := hide hend
      clear hend hj hc hBW hsW dW dW' hj2 hc2 hB2 hs2 HI HFY HFN HC hg hg1 h6
      gi_wp2
      exact unhide HEND
  case done =>
    rintro ys W hS ⟨hj, hc, hB, hs⟩ hK
    have hcell := hc.cell
    rw [fitN_all hS] at hcell
    have hBP : Below w.heap.size w (W.putObj w6.heap.size (.deferred none)) := hB.trans ((Below.refl _ W).grown (grownBy_putObj' W _ _) (by omega) (fun k e => by cases e; omega))
    have HS6 := hide hs6
    clear hj hc hs6 hseq d6 cj6 cc6 hB
    gi_wp2
    refine ⟨by simp, .inl ⟨_, _, rfl, run_takeDeferred hK, ?_⟩⟩
    refine ⟨_, results_tmp rfl _ _ _, ?_⟩
    exact ⟨rfl, hBP⟩
  case stop =>
    rintro c pre W _ h _
    exact h.elim
set_option maxHeartbeats 800000 in
theorem icntn_any (A A' P : Option Addr) (n c B n' c' B' m d B2 : Nat) (p q J : List Int) (w : World) (h : Arg w B A n c p) (h' : Arg w B' A' n' c' q) (h2 : Arg w B2 P m d J) :
    Calls Tryd.prog 7 #[.slice A n c, .agg #[.slice A' n' c', .slice P m d]] w (GivesN w (numNear p q J)) := by
  obtain ⟨bp, hp⟩ : ∃ b, isP p = b := ⟨_, rfl⟩
  obtain ⟨bn, hok⟩ : ∃ b, nearOK q J = b := ⟨_, rfl⟩
  cases bp with
  | false =>
    obtain ⟨w0, hw0⟩ : ∃ w0, w0 = w.alloc (.cells #[.slice A' n' c', .slice P m d] 26) := ⟨_, rfl⟩
    have b0 : Below w.heap.size w w0 := by rw [hw0]; exact (Below.refl _ w).alloc (Nat.le_refl _) _
    have H1 := hide (iisperm_any A n c B p false hp w0 (h.below b0).reads (h.below b0).under h.le h.small)
    rw [numNear_no (.inl hp)]
    have HW0 := hide hw0
    clear h h' h2 hp hok hw0
    go_enter Tryd.func7, Tryd.ntmps7
    go_wp2_with fail
    rw [← unhide HW0]
    refine (unhide H1).mono ?_
    rintro e w1 ⟨rfl, d1⟩
    have d := below_after b0 d1
    clear H1 HW0 b0 d1
    go_wp2
    go_ret
    exact ⟨rfl, d⟩
  | true =>
    cases bn with
    | true =>
      rw [numNear_yes hp hok]
      exact cntn_yes A A' P n c B n' c' B' m d B2 p q J w h h' h2 hp hok
    | false =>
      obtain ⟨w0, hw0⟩ : ∃ w0, w0 = w.alloc (.cells #[.slice A' n' c', .slice P m d] 26) := ⟨_, rfl⟩
      have b0 : Below w.heap.size w w0 := by rw [hw0]; exact (Below.refl _ w).alloc (Nat.le_refl _) _
      have g0 : Whole w0 w.heap.size 26 #[.slice A' n' c', .slice P m d] := by rw [hw0]; exact Whole.new _ _ _
      have H1 := hide (iisperm_any A n c B p true hp w0 (h.below b0).reads (h.below b0).under h.le h.small)
      have H2 := hide (show ∀ w1, Below w.heap.size w w1 → _ from fun w1 d1 => inear_any A' P n' c' B' m d B2 q J w1 (h'.below d1) (h2.below d1))
      rw [hok] at H2
      rw [numNear_no (.inr hok)]
      have HW0 := hide hw0
      clear h h' h2 hp hok hw0
      go_enter Tryd.func7, Tryd.ntmps7
      go_wp2_with fail
      rw [← unhide HW0]
      refine (unhide H1).mono ?_
      rintro e w1 ⟨rfl, d1⟩
      have d1' := below_after b0 d1
      have g1 := g0.below d1 g0.lt
      have x0 := g1.cell 0
      have x1 := g1.cell 1
      simp only [List.getElem?_toArray, List.getElem?_cons_zero, List.getElem?_cons_succ] at x0 x1
      have HX := hide (unhide H2 w1 d1')
      clear H1 H2 HW0 b0 d1 g0 g1
      go_wp2_with fail
      refine (unhide HX).mono ?_
      rintro e w2 ⟨rfl, d2⟩
      have d := below_after d1' d2
      clear HX d1' d2
      go_wp2
      go_ret
      exact ⟨rfl, d⟩
end Go.Proofs.YtabfjmabiapgoaaDoor


/-
  spec.IdentityPerm and impl.IdentityPerm, by their contracts.
-/

namespace Go.Proofs.YtabfjmabiapgoaaDoor
set_option maxRecDepth 100000
open Go.RowKit

theorem Ints.of_whole {w : World} {g B n c : Nat} {t : TypeId} (ht : t ≠ 24) {l : List Int} (hg : Whole w g t (arr l)) (hB : B ≤ g) (hn : n ≤ l.length) (hnc : n ≤ c) : Ints w B (.slice (some ⟨g, 0, none⟩) n c) (l.take n) := by
  have hl : (l.take n).length = n := by rw [List.length_take]; omega
  unfold Ints
  rw [hl]
  refine ⟨by rw [i64_length, hl], .inr ⟨g, c, arr l, t, rfl, hB, hg, ⟨hnc, by rw [arr_size]; exact hn⟩, ?_, ht⟩⟩
  unfold arr i64s
  rw [List.map_take]

set_option maxRecDepth 100000 in
theorem iid_any (m : Int) (hm : -9223372036854775808 ≤ m ∧ m ≤ 9223372036854775807) (w : World) :
    Calls Tryd.prog 48 #[.int .i64 m] w (GivesI w (idR m)) := by
  obtain ⟨hm1, hm2⟩ := hm
  by_cases h1 : 1 ≤ m
  · by_cases h8 : m ≤ 8
    · rw [idR_yes h1 h8]
      obtain ⟨n, rfl⟩ : ∃ n : Nat, m = (n : Int) := ⟨m.toNat, by omega⟩
      have hn8 : n ≤ 8 := by omega
      have hn1 : 1 ≤ n := by omega
      clear hm1 hm2 h1 h8
      rw [Int.toNat_natCast]
      have H1 := hide (asc_any n hn8 w)
      go_enter Tryd.func48, Tryd.ntmps48
      go_wp2_with fail
      refine (unhide H1).mono ?_
      rintro e w1 ⟨rfl, hb⟩
      clear H1
      have hs1 := hb.size
      obtain ⟨wa, hwa⟩ : ∃ wa, wa = w1.alloc (.cells (arr (ascL 0)) 82) := ⟨_, rfl⟩
      have hg0 : Whole wa w1.heap.size 82 (arr (ascL 0)) := by rw [hwa]; exact Whole.new w1 _ _
      have hba : Below w.heap.size w wa := by rw [hwa]; exact hb.alloc hs1 _
      have hg1 : Whole (wa.setRow w1.heap.size (arr (ascL n))) w1.heap.size 82 (arr (ascL n)) := setRow_heap _ _ _ _ _ _ hg0
      rw [hwa] at hg0
      have hb2 := below_set_row hba w1.heap.size (arr (ascL n)) hs1
      have HW := hide hwa
      clear hwa hba
      go_wp2_with (first
        | (refine wpList_store_row rfl 82 (.tmp 3) (.tmp 11) rfl w1.heap.size (arr (ascL n)) rfl rfl 82 (arr (ascL 0)) hg0 (by rw [arr_size, ascL_length]; exact permInfo) (by rw [arr_size, arr_size, ascL_length, ascL_length]) (arr_one _) ?_))
      go_ret
      have hI := Ints.of_whole (B := w.heap.size) (c := n) (by decide) hg1 hs1 (n := n) (by rw [ascL_length]; exact hn8) (Nat.le_refl _)
      rw [upTo_asc hn8, unhide HW, ← zeros_asc] at hI
      rw [unhide HW, ← zeros_asc] at hb2
      have h := GivesI.mk hI hb2
      exact h
    · have h8' : 8 < m := by omega
      rw [idR_no (by omega)]
      go_enter Tryd.func48, Tryd.ntmps48
      go_wp2
      go_ret
      exact GivesI.mk (v := .slice none 0 0) (Ints.nil _ _) (Below.refl _ _)
  · have h1' : m < 1 := by omega
    rw [idR_no (by omega)]
    go_enter Tryd.func48, Tryd.ntmps48
    go_wp2
    go_ret
    exact GivesI.mk (v := .slice none 0 0) (Ints.nil _ _) (Below.refl _ _)
end Go.Proofs.YtabfjmabiapgoaaDoor


/-
  impl.ConsecutiveOf, by its contract.
-/

namespace Go.Proofs.YtabfjmabiapgoaaDoor
set_option maxRecDepth 100000
open Go.RowKit

theorem conJ_id {n : Nat} (hn : n ≤ 8) : conJ n = idR ((n : Int) - 1) := by
  have : ∀ m, m ≤ 8 → conJ m = idR ((m : Int) - 1) := by decide
  exact this n hn
set_option maxHeartbeats 1600000 in
theorem iconn_any (A : Option Addr) (n c B : Nat) (q : List Int) (w : World) (h : Arg w B A n c q) :
    Calls Tryd.prog 14 #[.slice A n c] w (GivesNB w (conQ q) (conR q) (isP q)) := by
  have hl := h.len
  obtain ⟨b, hb⟩ : ∃ b, isP q = b := ⟨_, rfl⟩
  have hbel := (Below.refl w.heap.size w).alloc (Nat.le_refl _) (.cells #[.slice none 0 0, .slice none 0 0] 26)
  have hW := Whole.new w 26 #[.slice none 0 0, .slice none 0 0]
  have H0 := hide (iisperm_any A n c B q b hb _ (h.below hbel).reads (h.below hbel).under h.le h.small)
  cases b with
  | false =>
    rw [show conQ q = [] by unfold conQ; rw [hb]; rfl, show conR q = [] by unfold conR; rw [hb]; rfl, hb]
    clear h hl hb
    go_enter Tryd.func14, Tryd.ntmps14
    go_wp2_with fail
    refine (unhide H0).mono ?_
    rintro e w1 ⟨rfl, hd⟩
    have hs1 : w.heap.size + 1 ≤ w1.heap.size := by have := hd.size; simpa using this
    have hW1 := hW.below hd (by simp)
    have hb1 := below_after hbel hd
    have r0 := hW1.cell 0
    have r1 := hW1.cell 1
    have g0 := hW1.frozen 0
    have g1 := hW1.frozen 1
    have hltr := hW1.lt
    simp only [List.getElem?_toArray, List.getElem?_cons_zero, List.getElem?_cons_succ] at r0 r1
    clear hd H0 hW hbel hs1
    go_wp2_with fail
    have hWe := (hW1.put 0 (.slice none 0 0)).put 1 (.slice none 0 0)
    refine bodyPost_ret (v := .tuple #[.agg #[.slice none 0 0, .slice none 0 0], .bool false]) (results_near Tryd.results14 _ _ w.heap.size 26 _ (0, 0) _ rfl hWe Tryd.underlying26 rfl nearInfo) rfl ?_
    exact nearB_end false (NearAt.none_ w1 (w.heap.size + 1)) (Nat.lt_succ_self _) hb1
  | true =>
    have hn8 : n ≤ 8 := by have := isP_le hb; omega
    rw [show conQ q = q by unfold conQ; rw [hb]; rfl, show conR q = idR ((n : Int) - 1) by unfold conR; rw [hb, hl]; exact conJ_id hn8, hb]
    have H1 := hide (show ∀ w1, Below w.heap.size w w1 → _ from fun w1 d => clone_any A n c B q w1 (h.below d))
    have hwn : IntKind.i64.wrap ((n : Int) - 1) = (n : Int) - 1 := by rw [IntKind.wrap_i64]; omega
    have H2 := hide (fun w2 => iid_any ((n : Int) - 1) (by omega) w2)
    have HL := hide hl
    clear h hl hb
    go_enter Tryd.func14, Tryd.ntmps14
    go_wp2_with fail
    refine (unhide H0).mono ?_
    rintro e w1 ⟨rfl, hd⟩
    have hs1 : w.heap.size + 1 ≤ w1.heap.size := by have := hd.size; simpa using this
    have hW1 := hW.below hd (by simp)
    have hb1 := below_after hbel hd
    have H3 := hide (unhide H1 w1 hb1)
    clear hd H0 hW hbel H1
    go_wp2_with fail
    refine (unhide H3).mono ?_
    rintro e w2 ⟨A2, c2, rfl, o2, d2⟩
    have H4 := hide (unhide H2 w2)
    clear H3 H2
    go_wp2_with fail
    refine (unhide H4).mono ?_
    rintro e w3 ⟨A3, c3, rfl, o3, d3⟩
    have hN : NearAt w3 (w.heap.size + 1) (.slice A2 q.length c2) (.slice A3 (idR ((n : Int) - 1)).length c3) q (idR ((n : Int) - 1)) := ⟨(o2.below d3).low hs1, o3.low (by have := d2.size; omega), apart o2.until_ o3.since (Nat.le_refl _)⟩
    have hR := (hW1.below d2 (by omega)).below d3 (by have := d2.size; omega)
    have hB := below_after (below_after hb1 d2) d3
    have r0 := hR.cell 0
    have r1 := hR.cell 1
    have g0 := hR.frozen 0
    have g1 := hR.frozen 1
    have hltr := hR.lt
    simp only [List.getElem?_toArray, List.getElem?_cons_zero, List.getElem?_cons_succ] at r0 r1
    have HN := hide (⟨hR, hN, hB⟩ : Whole w3 w.heap.size 26 #[.slice none 0 0, .slice none 0 0] ∧ NearAt w3 (w.heap.size + 1) (.slice A2 q.length c2) (.slice A3 (idR ((n : Int) - 1)).length c3) q (idR ((n : Int) - 1)) ∧ Below w.heap.size w w3)
    clear hR hN hB H4 o2 o3 d2 d3 hW1 hb1 hs1
    go_wp2_with fail
    obtain ⟨hR, hN, hB⟩ := unhide HN
    have hWe := (hR.put 0 (.slice A2 q.length c2)).put 1 (.slice A3 (idR ((n : Int) - 1)).length c3)
    refine bodyPost_ret (v := .tuple #[.agg #[.slice A2 q.length c2, .slice A3 (idR ((n : Int) - 1)).length c3], .bool true]) (results_near Tryd.results14 _ _ w.heap.size 26 _ (0, 0) _ rfl hWe Tryd.underlying26 rfl nearInfo) rfl ?_
    exact nearB_end true hN (Nat.lt_succ_self _) hB
end Go.Proofs.YtabfjmabiapgoaaDoor


/-
  slices.Backward at []int: an iterator over a list from its end.
-/

namespace Go.Proofs.YtabfjmabiapgoaaDoor
set_option maxRecDepth 100000
open Go.RowKit Go.Shelf
attribute [local go_sem] Oper.semAt_some

theorem arg_kept' {w w' : World} {B n c : Nat} {A : Option Addr} {zs : List Int} (h : Arg w B A n c zs) (hs : w.heap.size ≤ w'.heap.size) (hk : ∀ k, k < B → w'.heap[k]? = w.heap[k]?) : Arg w' B A n c zs :=
  ⟨h.reads.keep fun p hp => by unfold World.cell?; rw [hk p.block hp], Nat.le_trans h.under hs, h.le, h.cap, h.small, h.nil⟩
theorem back_made (A : Option Addr) (n c : Nat) (w : World) :
    Calls Tryd.prog 41 #[.slice A n c] w fun e w' => e = .returned (.func (.func 74) #[] #[.pointer (some ⟨w.heap.size, 0, none⟩)]) ∧ w' = w.alloc (.cells #[.slice A n c] 24) := by
  go_enter Tryd.func41, Tryd.ntmps41
  go_wp2
  go_ret
  exact ⟨rfl, rfl⟩
set_option maxRecDepth 100000 in
set_option maxHeartbeats 2000000 in
theorem back_tell (A : Option Addr) (n c B : Nat) (zs : List Int) (P : Nat → Prop) (bp N : Nat) (w : World) (h : Arg w B A n c zs) (hbp : Boxed w bp 24 (.slice A n c)) (hP : (∀ k, k < B → P k) ∧ P bp) (m : Nat) (hN : zs.length ≤ N) :
    TellsZ Fence.wide m Tryd.prog 74 #[.pointer (some ⟨bp, 0, none⟩)] 0 (fun x : Int × Int => #[.int .i64 x.1, .int .i64 x.2]) (fun _ x _ => x.2 ∈ zs) (Keep P) (fun xs => xs.map (·.2) = zs.reverse) (fun _ => True) N w := by
  intro l J Jx W hW hsz hJ hJx hY h0
  change CallsIn Fence.wide m Tryd.prog 74 #[.func (.yield l) #[] #[], .pointer (some ⟨bp, 0, none⟩)] W _
  have hle := h.le
  have hl := h.len
  have hA := h.below hW
  have hB := boxed_later hbp hW
  have hcW := Boxed.cell hB
  have hwn : IntKind.i64.wrap ((n : Int) - 1) = (n : Int) - 1 := by rw [IntKind.wrap_i64]; omega
  have HY := hide hY
  have HP := hide hP
  have HL := hide hl
  have HZ := hide hsz
  refine callsIn_of_wp Tryd.func74 rfl trivial ?_ rfl
  simp only [Tryd.ntmps74, List.size_toArray, List.length_cons, List.length_nil, Nat.reduceAdd, Nat.reduceSub, Array.replicate_succ, Array.replicate_zero, List.push_toArray, List.append_toArray, List.nil_append, List.cons_append]
  clear hJ hJx hY h hbp hP hl hsz hW
  gi_wp2
  gi_loopw [3] (fun i wr => ∃ (r : Nat) (pre : List (Int × Int)), r ≤ n ∧ i = .int .i64 ((r : Int) - 1) ∧ pre.map (·.2) = (zs.drop r).reverse ∧ J pre wr ∧ Arg wr B A n c zs ∧ Boxed wr bp 24 (.slice A n c) ∧ W.heap.size ≤ wr.heap.size) (fun i _ => (intOf i + 1).toNat)
  case atStart => exact ⟨n, [], Nat.le_refl _, rfl, by rw [List.drop_of_length_le (Nat.le_of_eq (unhide HL))]; rfl, h0, hA, hB, Nat.le_refl _⟩
  case round =>
    obtain ⟨r, pre, hr, rfl, hpre, hj, hAr, hBr, hs⟩ := hrel
    clear h0 hA hB hcW
    by_cases h0 : r = 0
    · subst h0
      have hneg : ¬ ((0 : Int) ≤ ((0 : Nat) : Int) - 1) := by omega
      rw [List.drop_zero] at hpre
      have HPRE := hide hpre
      clear hpre
      gi_wp2
      go_end0
      exact ⟨⟨_, rfl⟩, .inl ⟨pre, unhide HPRE, hj⟩⟩
    · obtain ⟨k, rfl⟩ : ∃ k, r = k + 1 := ⟨r - 1, by omega⟩
      have e1 : (((k + 1 : Nat) : Int) - 1) = (k : Int) := by omega
      rw [e1]
      obtain ⟨ad, u, rfl, _, hu, hc⟩ := hAr.reads.at_ (show k < n by omega)
      obtain ⟨z, hz, rfl⟩ := i64_at hu
      have hcell := hBr.cell
      have hlen : pre.length < N := by
        have h1 := congrArg List.length hpre
        rw [List.length_map, List.length_reverse, List.length_drop] at h1
        have := unhide HL
        omega
      obtain ⟨fn, tmps, assign, body, hy, hR⟩ := unhide HY pre ((k : Int), z) wr wr hj (by have := unhide HZ; omega) (Below.refl _ _) (List.mem_of_getElem? hz) hlen
      have hnext : (pre ++ [((k : Int), z)]).map (·.2) = (zs.drop k).reverse := by rw [List.map_append, hpre, rev_step hz]; rfl
      have hk0 : (0 : Int) ≤ (k : Int) := by omega
      have hkn : (k : Int) < (n : Int) := by omega
      have hwk : IntKind.i64.wrap ((k : Int) - 1) = (k : Int) - 1 := by rw [IntKind.wrap_i64]; omega
      have HN := hide (⟨hnext, hAr, hBr, hs⟩ : (pre ++ [((k : Int), z)]).map (·.2) = (zs.drop k).reverse ∧ Arg wr B (some ad) n c zs ∧ Boxed wr bp 24 (.slice (some ad) n c) ∧ W.heap.size ≤ wr.heap.size)
      dsimp only at hy hR
      clear hnext hAr hBr hs hpre hj e1 hu hz hlen HY h0
      gi_wp2_with fail
      refine And.intro (fun h => absurd h (by decide)) ?_
      refine hR.mono ?_
      rintro e V (⟨rfl, hj2, hk2⟩ | ⟨rfl, hx2, _⟩)
      · obtain ⟨hnext, hAr, hBr, hs⟩ := unhide HN
        have hP := unhide HP
        have hAr2 := arg_kept' hAr hk2.size fun i hi => hk2.block i (by have := hAr.under; omega) (hP.1 i hi)
        have hBr2 := hk2.boxed hBr hP.2
        have hs2 := Nat.le_trans hs hk2.size
        have HN2 := hide hnext
        clear hR hy hnext hAr hBr hs hP hk2 HN hcell hc
        gi_wp2
        go_roundw
        case rel => exact ⟨k, pre ++ [((k : Int), z)], by omega, by go_num, unhide HN2, hj2, hAr2, hBr2, hs2⟩
        case measure => simp [intOf]
      · clear hR hy HN hcell hc
        gi_wp2
        exact bodyPost_ret (results_none rfl _ _ _) rfl ⟨⟨_, rfl⟩, .inr ⟨_, trivial, hx2⟩⟩
end Go.Proofs.YtabfjmabiapgoaaDoor


/-
  impl.ReversePerm, by its contract.
-/

namespace Go.Proofs.YtabfjmabiapgoaaDoor
set_option maxRecDepth 100000
open Go.RowKit

/-- A row on which other numbers have been laid. -/
theorem Ints.laid {w : World} {B g n cap : Nat} {zs : List Int} (h : Ints w B (.slice (some ⟨g, 0, none⟩) n cap) zs) (ts : List Int) (hl : ts.length = zs.length) (k : Nat) :
    Ints (Sort.putRow (Value.int .i64) (Sort.ahead w k) g 0 ts.toArray) B (.slice (some ⟨g, 0, none⟩) n cap) ts ∧ w.grownBy (Sort.putRow (Value.int .i64) (Sort.ahead w k) g 0 ts.toArray) (some g) := by
  have hg := grownBy_sortedI (w := w) (g := g) (n := k) (os := #[]) ts.toArray
  rw [Sort.grow_empty] at hg
  refine ⟨?_, hg⟩
  have hn := h.len
  rcases h.2 with ⟨hv, _⟩ | ⟨g', cap', cur, e, hv, hb, hgg, hs, ht, he⟩
  · cases hv
  · injection hv with h1 h2 h3
    injection h1 with h1
    injection h1 with h1
    subst h1; subst h3
    have hh := heap_sortedI (w := w) (g := g) (n := k) (os := #[]) ts.toArray hgg
    rw [Sort.grow_empty] at hh
    refine ⟨by rw [i64_length], .inr ⟨g, cap, _, e, by rw [hl, ← hn], hb, hh, ⟨by omega, by unfold Sort.putCells; rw [Array.size_mapIdx]; omega⟩, ?_, he⟩⟩
    exact take_putCellsI cur ts (by omega)
theorem Ints.holds {w : World} {B g n cap : Nat} {zs : List Int} (h : Ints w B (.slice (some ⟨g, 0, none⟩) n cap) zs) : Sort.Holds (Value.int .i64) w g 0 zs.toArray := by
  rcases h.2 with ⟨hv, _⟩ | ⟨g', cap', cur, e, hv, hb, hgg, hs, ht, he⟩
  · cases hv
  · injection hv with h1 h2 h3
    injection h1 with h1
    injection h1 with h1
    subst h1
    exact holds_of_blockI hgg ht
set_option maxHeartbeats 400000 in
theorem irev_any (A : Option Addr) (n c B : Nat) (zs : List Int) (w : World) (h : Arg w B A n c zs) :
    Calls Tryd.prog 42 #[.slice A n c] w (GivesI w (revR zs)) := by
  obtain ⟨b, hb⟩ : ∃ b, isP zs = b := ⟨_, rfl⟩
  have H1 := hide (iisperm_any A n c B zs b hb w h.reads h.under h.le h.small)
  cases b with
  | false =>
    rw [revR_no hb]
    clear hb h
    go_enter Tryd.func42, Tryd.ntmps42
    go_wp2_with fail
    refine (unhide H1).mono ?_
    rintro e w1 ⟨rfl, hb⟩
    clear H1
    go_wp2
    go_ret
    exact GivesI.mk (v := .slice none 0 0) (Ints.nil _ _) hb
  | true =>
    rw [revR_yes hb]
    have h8 := isP_le hb
    have H2 := hide (fun w' (hb' : Below w.heap.size w w') => clone_any A n c B zs w' (h.below hb'))
    clear hb h
    go_enter Tryd.func42, Tryd.ntmps42
    go_wp2_with fail
    refine (unhide H1).mono ?_
    rintro e w1 ⟨rfl, hb⟩
    have H3 := hide (unhide H2 w1 hb)
    clear H1 H2
    go_wp2_with fail
    refine (unhide H3).mono ?_
    rintro e w2 ⟨A2, c2, rfl, own2, hb2⟩
    have hs := hb.size
    have hb3 := below_after hb hb2
    clear H3 hb hb2
    have own2 := own2.low hs
    rcases own2.2 with ⟨hv, h0⟩ | ⟨g, cap, cur, e, hv, hg, _⟩
    · injection hv with e1 e2 e3
      subst e1; subst e3
      obtain rfl := List.eq_nil_of_length_eq_zero h0
      have H4 := hide (Tryd.slices_Reverse_int_empty none 0 w2)
      clear h0 own2
      go_wp2_with fail
      refine (unhide H4).mono ?_
      rintro e w3 ⟨rfl, hw3⟩
      rw [hw3]
      clear hw3 H4
      go_wp2
      go_ret
      exact GivesI.mk (v := .slice none 0 0) (Ints.nil _ _) hb3
    · injection hv with e1 e2 e3
      subst e1; subst e3
      have H4 := hide (Tryd.slices_Reverse_int g 0 c2 zs w2 own2.holds (by omega))
      have L := hide (fun k => own2.laid zs.reverse (by rw [List.length_reverse]) k)
      have hB := hb3.size
      have hgs := own2.since
      clear own2
      go_wp2_with fail
      refine (unhide H4).mono ?_
      rintro e w3 ⟨rfl, k, hw3⟩
      obtain ⟨l1, l2⟩ := unhide L k
      rw [← hw3] at l1 l2
      have hb4 := hb3.grown l2 hB (fun q hq => hgs q (by rw [← hq]; rfl))
      clear hw3 H4 L hb3
      go_wp2
      go_ret
      exact GivesI.mk l1 hb4
end Go.Proofs.YtabfjmabiapgoaaDoor


/-
  impl.ReverseNear: a loop over the joined places from their end.
-/

namespace Go.Proofs.YtabfjmabiapgoaaDoor
set_option maxRecDepth 100000
open Go.RowKit Go.Shelf
attribute [local go_sem] Oper.semAt_some

theorem rev_sizes (q J : List Int) : (revQ q J).length ≤ 1048576 ∧ (revJJ q J).length ≤ 1048576 := by
  unfold revQ revJJ
  cases h : nearOK q J with
  | true =>
    obtain ⟨hq, hJ⟩ := nearOK_iff.1 h
    have h8 := isP_le hq
    have h9 := plOK_len hJ
    simp [plRev]; omega
  | false => simp
theorem own_but {W W' : World} {lo hi B n k : Nat} {e : TypeId} {v : Value} {xs : List Value} (h : W.ownsRow B e k v n xs) (hb : But lo hi W W') (hB : hi ≤ B) : W'.ownsRow B e k v n xs := by
  refine ⟨h.1, ?_⟩
  rcases h.2 with hn | ⟨g, cap, cur, rfl, hg, hgg, hr⟩
  · exact .inl hn
  · exact .inr ⟨g, cap, cur, rfl, hg, (hb.block g (Array.getElem?_eq_some_iff.1 hgg).1 (by omega)).trans hgg, hr⟩
theorem Whole.but {W W' : World} {lo hi b : Nat} {t : TypeId} {cs : Array Value} (h : Whole W b t cs) (hb : But lo hi W W') (hz : b < lo ∨ hi ≤ b) : Whole W' b t cs := (hb.block b h.lt hz).trans h
/-- The joined places of the reverse, as they come. -/
def backJ (n : Nat) (pre : List (Int × Int)) : List Int := pre.map fun x => (n : Int) - x.2
theorem backJ_snoc (n : Nat) (pre : List (Int × Int)) (x : Int × Int) : backJ n (pre ++ [x]) = backJ n pre ++ [(n : Int) - x.2] := by unfold backJ; rw [List.map_append]; rfl
theorem backJ_all {q J : List Int} {n : Nat} {xs : List (Int × Int)} (hl : q.length = n) (hok : nearOK q J = true) (h : xs.map (·.2) = J.reverse) : backJ n xs = plRev (q.length - 1) J := by
  rw [← revP_all hok, hl]
  unfold backJ revP
  rw [List.take_of_length_le (by rw [List.length_reverse]; exact Nat.le_refl _), ← h, List.map_map]
  rfl
/-- A code that ends by its end alone: what its panics would leave is not asked. -/
def onlyN (Q : Exit → Act → World → Prop) : Exit → Act → World → Prop
  | .normal, a, w => Q .normal a w
  | _, _, _ => False
theorem onlyN_in {F : Fence} {n : Nat} {P : Program} {c : Code} {Q : Exit → Act → World → Prop} {a : Act} {w : World} (h : c.wpIn F n P (onlyN Q) a w) : c.wpIn F n P Q a w :=
  wpIn_mono h fun e a w h => by cases e <;> first | exact h | exact h.elim
theorem own_slice {W : World} {B n k : Nat} {e : TypeId} {v : Value} {xs : List Value} (h : W.ownsRow B e k v n xs) : ∃ A c, v = .slice A n c := by
  rcases h.2 with ⟨rfl, rfl⟩ | ⟨g, cap, _, rfl, _⟩
  · exact ⟨_, _, rfl⟩
  · exact ⟨_, _, rfl⟩
set_option maxRecDepth 100000 in
set_option maxHeartbeats 4000000 in
theorem revn_yes (A P : Option Addr) (n c B m d B' : Nat) (q J : List Int) (w : World) (h : Arg w B A n c q) (h' : Arg w B' P m d J) (hok : nearOK q J = true) :
    Calls Tryd.prog 11 #[.agg #[.slice A n c, .slice P m d]] w (GivesNB w (revQ q J) (revJJ q J) true) := by
  obtain ⟨i0, hi, hz0, hz1, hz2⟩ := info_parts intInfo
  obtain ⟨hq, hJ⟩ := nearOK_iff.1 hok
  have hl := h.len
  have hl' := h'.len
  have hn8 : n ≤ 8 := by have := isP_le hq; omega
  have hm8 : m ≤ 8 := by have := plOK_len hJ; omega
  have hBu := h.under
  have hBu' := h'.under
  rw [show revQ q J = q.reverse by unfold revQ; rw [hok]; rfl, show revJJ q J = plRev (q.length - 1) J by unfold revJJ; rw [hok]; rfl]
  obtain ⟨w0, hw0⟩ : ∃ w0, w0 = (w.alloc (.cells #[.slice A n c, .slice P m d] 26)).alloc (.cells #[.slice none 0 0, .slice none 0 0] 26) := ⟨_, rfl⟩
  have b0 : Below w.heap.size w w0 := by rw [hw0]; exact ((Below.refl _ w).alloc (Nat.le_refl _) _).alloc (by simp) _
  have gx : Whole w0 w.heap.size 26 #[.slice A n c, .slice P m d] := by rw [hw0]; exact (Whole.new _ _ _).alloc _
  have gr : Whole w0 (w.heap.size + 1) 26 #[.slice none 0 0, .slice none 0 0] := by
    rw [hw0]
    have := Whole.new (w.alloc (.cells #[.slice A n c, .slice P m d] 26)) 26 #[.slice none 0 0, .slice none 0 0]
    rwa [World.size_alloc] at this
  have x0 := gx.cell 0
  have x1 := gx.cell 1
  simp only [List.getElem?_toArray, List.getElem?_cons_zero, List.getElem?_cons_succ] at x0 x1
  have H1 := hide (inear_any A P n c B m d B' q J w0 (h.below b0) (h'.below b0))
  rw [hok] at H1
  have H4 := hide (fun w2 => back_made P m d w2)
  have HT := hide (show ∀ w5, Below w.heap.size w w5 → ∀ bj, bj + 1 = w5.heap.size → w.heap.size < bj → TellsZ Fence.wide 3 Tryd.prog 74 #[.pointer (some ⟨w5.heap.size, 0, none⟩)] 0 (fun x : Int × Int => #[.int .i64 x.1, .int .i64 x.2]) (fun _ x _ => x.2 ∈ J)
      (Keep (fun k => k < bj + 4 ∧ k ≠ bj ∧ k ≠ bj + 2 ∧ k ≠ bj + 3)) (fun xs => xs.map (·.2) = J.reverse) (fun _ => True) m (w5.alloc (.cells #[.slice P m d] 24)) from fun w2 d2 bj hbj hlt => by
    have d3 : Below w2.heap.size w2 (w2.alloc (.cells #[.slice P m d] 24)) := (Below.refl _ w2).alloc (Nat.le_refl _) _
    exact back_tell P m d B' J _ w2.heap.size m _ (h'.below (below_after d2 d3)) (Boxed.new w2 _ _) ⟨fun k hk => by omega, by omega⟩ 3 (by omega))
  have HV := hide (show ∀ w2, Below w.heap.size w w2 → _ from fun w2 d2 => irev_any A n c B q w2 (h.below d2))
  rw [show revR q = q.reverse by unfold revR; rw [if_pos hq]] at HV
  have HJ := hide (show ∀ x ∈ J, 1 ≤ x ∧ x ≤ 8 from fun x hx => by have := hJ.1 x hx; omega)
  have HA := hide (fun (xs : List (Int × Int)) (h : xs.map (·.2) = J.reverse) => backJ_all (q := q) (n := n) hl hok h)
  refine (callsIn_wide (n := 4)).1 ?_
  refine callsIn_of_wp_marks Tryd.func11 rfl trivial ?_ rfl
  simp only [Tryd.ntmps11, List.size_toArray, List.length_cons, List.length_nil, Nat.reduceAdd, Nat.reduceSub, Array.replicate_succ, Array.replicate_zero, List.push_toArray, List.append_toArray, List.nil_append, List.cons_append]
  have HW0 := hide hw0
  have HL := hide hl
  rw [hw0] at x0 x1
  clear h h' hq hok hJ hBu hBu' hl' hl hw0
  gi_wp2_with fail
  rw [← unhide HW0]
  refine ⟨trivial, ?_⟩
  refine (callsIn_wide.2 (unhide H1)).mono ?_
  rintro e w1 ⟨rfl, d1⟩
  have d1' := below_after b0 d1
  have gx1 := gx.below d1 gx.lt
  have gr1 := gr.below d1 gr.lt
  obtain ⟨bj, hbj⟩ : ∃ b, b = w1.heap.size := ⟨_, rfl⟩
  have hbjw : w.heap.size + 1 < bj := by have := gr1.lt; omega
  obtain ⟨w2, hw2⟩ : ∃ w2, w2 = w1.alloc (.cells #[.slice none 0 0] 24) := ⟨_, rfl⟩
  have hs2 : w2.heap.size = bj + 1 := by rw [hw2]; simp [hbj]
  have b12 : Below w1.heap.size w1 w2 := by rw [hw2]; exact (Below.refl _ w1).alloc (Nat.le_refl _) _
  have d2 := below_after d1' b12
  have gx2 := gx1.below b12 gx1.lt
  have gr2 := gr1.below b12 gr1.lt
  have cj2 : Boxed w2 bj 24 (.slice none 0 0) := by rw [hw2, hbj]; exact Boxed.new w1 _ _
  have y1 := gx2.cell 1
  simp only [List.getElem?_toArray, List.getElem?_cons_zero, List.getElem?_cons_succ] at y1
  rw [hw2] at y1
  have HW2 := hide hw2
  have HG2 := hide (⟨d2, gx2, gr2, cj2, hs2⟩ : Below w.heap.size w w2 ∧ Whole w2 w.heap.size 26 #[.slice A n c, .slice P m d] ∧ Whole w2 (w.heap.size + 1) 26 #[.slice none 0 0, .slice none 0 0] ∧ Boxed w2 bj 24 (.slice none 0 0) ∧ w2.heap.size = bj + 1)
  have HBJ := hide hbj
  clear H1 HW0 x0 x1 gx gr b0 d1 d1' gx1 gr1 b12 d2 gx2 gr2 cj2 hs2 hw2 hbj
  gi_wp2_with fail
  refine ⟨trivial, ?_⟩
  refine (callsIn_wide.2 (unhide H4 _)).mono ?_
  rintro e w3 ⟨rfl, hw3⟩
  rw [← unhide HW2] at hw3
  obtain ⟨d2, gx2, gr2, cj2, hs2⟩ := unhide HG2
  have hseq := unhide HT w2 d2 bj hs2.symm (by omega)
  rw [← unhide HW2, ← unhide HBJ, hs2]
  rw [← hw3, hs2] at hseq
  have hs3 : w3.heap.size = bj + 2 := by rw [hw3]; simp [hs2]
  have b23 : Below w2.heap.size w2 w3 := by rw [hw3]; exact (Below.refl _ w2).alloc (Nat.le_refl _) _
  have cj3 : Boxed w3 bj 24 (.slice none 0 0) := by rw [hw3]; exact Boxed.alloc cj2 _
  have gx3 := gx2.below b23 gx2.lt
  have gr3 := gr2.below b23 gr2.lt
  have d3 : Below w.heap.size w w3 := below_after d2 b23
  clear H4 HT HW2 HBJ HG2 hw3 d2 gx2 gr2 cj2 hs2 b23 y1
  gi_wp2
  refine range_zone rfl (by decide) (gf := 74) (lb := #[.pointer (some ⟨bj + 1, 0, none⟩)]) rfl trivial (enters_of Tryd.func74 (by kernel_rfl) rfl)
    hseq (fun h k => h.trans k) (fun W r r' hd => Keep.putObj W (by omega) _) (fun _ => rfl) (fun U V x r r' hdU hdV h => h)
    (fun pre V => (∃ v, Boxed V bj 24 v ∧ V.ownsRow (bj + 4) 3 1 v pre.length (i64s (backJ n pre))) ∧ Whole V w.heap.size 26 #[.slice A n c, .slice P m d] ∧ Whole V (w.heap.size + 1) 26 #[.slice none 0 0, .slice none 0 0] ∧ Below w.heap.size w V ∧ bj + 2 ≤ V.heap.size)
    (fun _ _ _ => False)
    (fun pre U V h hb' => by
      obtain ⟨⟨v, h1, h2⟩, h3, h4, h5, h6⟩ := h
      exact ⟨⟨v, Boxed.but h1 hb' (by omega), own_but h2 hb' (by omega)⟩, Whole.but h3 hb' (by omega), Whole.but h4 hb' (by omega), h5.trans (hb'.below (by omega) (by omega)), Nat.le_trans h6 hb'.size⟩)
    (fun _ _ _ _ h _ => h)
    ⟨⟨_, cj3, World.ownsRow_nil _ _ _ _⟩, gx3, gr3, d3, by omega⟩
    (fun x => { tmps := #[.agg #[.slice A n c, .slice P m d], .pointer (some ⟨w.heap.size, 0, none⟩), .pointer (some ⟨w.heap.size + 1, 0, none⟩), .bool false, .pointer (some ⟨bj, 0, none⟩), undef, .int .i64 x.2, .agg #[.slice A n c, .slice P m d], .bool true, .bool false, undef, .pointer (some ⟨w.heap.size, 1, none⟩), .slice P m d, .func (.func 74) #[] #[.pointer (some ⟨bj + 1, 0, none⟩)], .int .i64 x.1, .int .i64 x.2, undef, undef, undef, undef, undef, undef, undef, undef, undef, undef, undef, undef, undef], defers := [] }) ?assign ?body ?done ?stop
  case assign =>
    intro l x W K hK
    gi_wp2
    exact hK
  case body =>
    rintro l pre ⟨i, z⟩ U W ⟨⟨v, hcU, hOU⟩, hxU, hrU, hBU, hsU⟩ hzU hbU hin hlen
    dsimp only at hin ⊢
    obtain ⟨k, hk⟩ : ∃ k, k = pre.length := ⟨_, rfl⟩
    rw [← hk] at hOU
    obtain ⟨Av, cv, rfl⟩ := own_slice hOU
    have hzr := unhide HJ z hin
    have hc := boxed_later hcU hbU
    have hO := own_below hOU hbU
    have hx := hxU.below hbU hxU.lt
    have hr := hrU.below hbU hrU.lt
    have hB := below_after hBU hbU
    have hsW : bj + 4 ≤ W.heap.size := by have := hbU.size; omega
    have hcell := hc.cell
    have hfz := hc.frozen
    have x0 := hx.cell 0
    simp only [List.getElem?_toArray, List.getElem?_cons_zero] at x0
    have hkm : k < 9 := by omega
    have hwz : IntKind.i64.wrap ((n : Int) - z) = (n : Int) - z := by rw [IntKind.wrap_i64]; omega
    have hd3 := d3.size
    have HEND := hide (show ∀ (g' cap' : Nat) (w1 : World), w1.ownsRow (bj + 4) 3 1 (.slice (some ⟨g', 0, none⟩) (k + 1) cap') (k + 1) (i64s (backJ n pre) ++ [.int .i64 ((n : Int) - z)]) → Below (bj + 4) W w1 →
        (∀ r, Desk w3.heap.size r W → Desk w3.heap.size r (w1.setCell ⟨bj, 0, none⟩ (.slice (some ⟨g', 0, none⟩) (k + 1) cap'))) ∧ Keep (fun k => k < bj + 4 ∧ k ≠ bj ∧ k ≠ bj + 2 ∧ k ≠ bj + 3) W (w1.setCell ⟨bj, 0, none⟩ (.slice (some ⟨g', 0, none⟩) (k + 1) cap')) ∧
        ((∃ v, Boxed (w1.setCell ⟨bj, 0, none⟩ (.slice (some ⟨g', 0, none⟩) (k + 1) cap')) bj 24 v ∧ (w1.setCell ⟨bj, 0, none⟩ (.slice (some ⟨g', 0, none⟩) (k + 1) cap')).ownsRow (bj + 4) 3 1 v (pre ++ [(i, z)]).length (i64s (backJ n (pre ++ [(i, z)])))) ∧ Whole (w1.setCell ⟨bj, 0, none⟩ (.slice (some ⟨g', 0, none⟩) (k + 1) cap')) w.heap.size 26 #[.slice A n c, .slice P m d] ∧ Whole (w1.setCell ⟨bj, 0, none⟩ (.slice (some ⟨g', 0, none⟩) (k + 1) cap')) (w.heap.size + 1) 26 #[.slice none 0 0, .slice none 0 0] ∧ Below w.heap.size w (w1.setCell ⟨bj, 0, none⟩ (.slice (some ⟨g', 0, none⟩) (k + 1) cap')) ∧ bj + 2 ≤ (w1.setCell ⟨bj, 0, none⟩ (.slice (some ⟨g', 0, none⟩) (k + 1) cap')).heap.size) from fun g' cap' w1 h1 h2 => by
      have hg := grownBy_setCell' w1 bj (.slice (some ⟨g', 0, none⟩) (k + 1) cap')
      have hsz := h2.size
      have hsz2 := hg.size
      have hblk : ∀ j, j < W.heap.size → j < bj + 4 → j ≠ bj → (w1.setCell ⟨bj, 0, none⟩ (.slice (some ⟨g', 0, none⟩) (k + 1) cap')).heap[j]? = W.heap[j]? := fun j h3 h4 h5 => (hg.block j (by omega) (by simp; omega)).trans (h2.block j h4)
      refine ⟨fun r hd => ⟨(hblk _ hd.lt (by omega) (by omega)).trans hd.rec_, (hblk _ (by have := hd.lt; omega) (by omega) (by omega)).trans hd.marks⟩, ⟨by omega, fun j h3 h4 => hblk j h3 (by omega) (by omega)⟩, ⟨_, Boxed.set _ ((h2.block bj (by omega)).trans hc), ?_⟩, (hblk _ hx.lt (by omega) (by omega)).trans hx, (hblk _ hr.lt (by omega) (by omega)).trans hr, ?_, by omega⟩
      · rw [backJ_snoc, ← i64_snoc, List.length_append, List.length_singleton, ← hk]
        exact own_past h1 (p := ⟨bj, 0, none⟩) (by show bj < bj + 4; omega) _
      · exact (hB.trans (h2.mono (by omega))).setCell (p := ⟨bj, 0, none⟩) (by show w.heap.size ≤ bj; omega) _)
    have HI0 := hide (⟨hi, hz0, hz1, hz2⟩ : Tryd.prog.info? 3 = some i0 ∧ i0.zero = some (.int .i64 0) ∧ i0.size = 1 ∧ i0.bytes = 8)
    clear hcU hOU hxU hrU hBU hsU hzU hbU hin hlen hk hc hx hr hB hseq d3 cj3 gx3 gr3 hs3
    gi_wp2_with (first
      | (gi_at_builtin; refine wpListIn_append_own _ rfl (.tmp 16) (.tmp 22) 24 rfl (bj + 4) 3 i0 (.int .i64 0) 1 8 Tryd.underlying24 (unhide HI0).1 (unhide HI0).2.1 (unhide HI0).2.2.1 (unhide HI0).2.2.2 rfl (by decide) _ k _ rfl (hO.alloc _) ⟨W.heap.size, 0, none⟩ 1 1 [.int .i64 ((n : Int) - z)] rfl rfl (cell_one_new _ _ _) (by simp [Value.oneCell']) (by unfold maxLen; omega) (by omega) (by simp; omega) ?_; intro v' w1 hO1 hg1 _; obtain ⟨g', cap', rfl⟩ := ownsRow_succ hO1; have hb1 : Below (bj + 4) W w1 := ((Below.refl (bj + 4) W).alloc hsW _).grown hg1 (by simp; omega) (fun k e => (hO.lt k e).1); have hcell1 := (hb1.cell (p := ⟨bj, 0, none⟩) (show bj < bj + 4 by omega)).trans hcell; have hfz1 := (hb1.frozen (p := ⟨bj, 0, none⟩) (show bj < bj + 4 by omega)).trans hfz; have hend := unhide HEND g' cap' w1 hO1 hb1))
    exact hend
  case done =>
    rintro ys W hS ⟨⟨v, hc, hO⟩, hx, hr, hB, hs⟩ hK
    have hje := unhide HA ys hS
    have hyl : ys.length = (plRev (q.length - 1) J).length := by rw [← hje]; simp [backJ]
    rw [hje, hyl] at hO
    obtain ⟨Av, cv, rfl⟩ := own_slice hO
    have hs3e := hs3
    rw [hs3] at hK ⊢
    have hlt3 : bj + 2 < W.heap.size := (Array.getElem?_eq_some_iff.1 hK).1
    have hO9 : ∀ k, (Value.slice Av (plRev (q.length - 1) J).length cv).ownBlock = some k → bj + 4 ≤ k ∧ k < W.heap.size := fun k hk => hO.lt k hk
    have hIJ : Ints W (bj + 4) (.slice Av (plRev (q.length - 1) J).length cv) (plRev (q.length - 1) J) := Ints.of_own hO
    have hcell := hc.cell
    have x0 := hx.cell 0
    simp only [List.getElem?_toArray, List.getElem?_cons_zero] at x0
    have HC := hide (unhide HV W.drew hB.drew)
    have HFIN := hide (show ∀ (A4 : Option Addr) (c4 : Nat) (w4 : World), Ints w4 W.drew.heap.size (.slice A4 q.length c4) q.reverse → Below W.drew.heap.size W.drew w4 →
        ((w4.setCell ⟨w.heap.size + 1, 0, none⟩ (.slice A4 q.length c4)).setCell ⟨w.heap.size + 1, 1, none⟩ (.slice Av (plRev (q.length - 1) J).length cv)).heap[bj + 2]? = some (.deferred (some [])) ∧ Whole (((w4.setCell ⟨w.heap.size + 1, 0, none⟩ (.slice A4 q.length c4)).setCell ⟨w.heap.size + 1, 1, none⟩ (.slice Av (plRev (q.length - 1) J).length cv)).putObj (bj + 2) (.deferred none)) (w.heap.size + 1) 26 #[.slice A4 q.length c4, .slice Av (plRev (q.length - 1) J).length cv] ∧
        GivesNB w q.reverse (plRev (q.length - 1) J) true (.returned (.tuple #[.agg #[.slice A4 q.length c4, .slice Av (plRev (q.length - 1) J).length cv], .bool true])) (((w4.setCell ⟨w.heap.size + 1, 0, none⟩ (.slice A4 q.length c4)).setCell ⟨w.heap.size + 1, 1, none⟩ (.slice Av (plRev (q.length - 1) J).length cv)).putObj (bj + 2) (.deferred none)) from fun A4 c4 w4 o4 d4 => by
      have hsz : W.heap.size ≤ w4.heap.size := d4.size
      have hr4 : Whole w4 (w.heap.size + 1) 26 #[.slice none 0 0, .slice none 0 0] := hr.below (show Below W.heap.size W w4 from (Below.drew (Below.refl _ W)).trans d4) hr.lt
      have hWe := (hr4.put 0 (.slice A4 q.length c4)).put 1 (.slice Av (plRev (q.length - 1) J).length cv)
      have hd4 : Below W.heap.size W w4 := (Below.drew (Below.refl _ W)).trans d4
      have o4' : Ints w4 W.heap.size (.slice A4 q.length c4) q.reverse := o4
      have hK4 : ((w4.setCell ⟨w.heap.size + 1, 0, none⟩ (.slice A4 q.length c4)).setCell ⟨w.heap.size + 1, 1, none⟩ (.slice Av (plRev (q.length - 1) J).length cv)).heap[bj + 2]? = some (.deferred (some [])) := by
        rw [Below.heap_setCell _ _ _ (bj + 2) (by simp; omega), Below.heap_setCell _ _ _ (bj + 2) (by simp; omega), hd4.block _ hlt3]
        exact hK
      have hbut : ∀ V : World, But (bj + 2) (bj + 3) V (V.putObj (bj + 2) (.deferred none)) := fun V => But.putObj V (Nat.le_refl _) (by omega) _
      refine ⟨hK4, Whole.but hWe (hbut _) (by omega), GivesNB.mk true ⟨?_, ?_, apart' o4'.since hIJ.until_ (Nat.le_refl _)⟩ ?_⟩
      · exact (((o4'.past (by show w.heap.size + 1 < _; omega) _).past (by show w.heap.size + 1 < _; omega) _).but (hbut _) (by omega)).low (by omega)
      · exact ((((hIJ.below hd4).past (by show w.heap.size + 1 < _; omega) _).past (by show w.heap.size + 1 < _; omega) _).but (hbut _) (by omega)).low (by omega)
      · refine Below.trans (((below_after hB hd4).setCell (p := ⟨w.heap.size + 1, 0, none⟩) (by show w.heap.size ≤ w.heap.size + 1; omega) _).setCell (p := ⟨w.heap.size + 1, 1, none⟩) (by show w.heap.size ≤ w.heap.size + 1; omega) _) ((Below.refl _ _).grown (grownBy_putObj' _ _ _) (by simp; have := hB.size; omega) (fun k e => by cases e; omega)))
    have HCC := hide (show ∀ w4, Below W.drew.heap.size W.drew w4 → w4.cell? ⟨bj, 0, none⟩ = some (.slice Av (plRev (q.length - 1) J).length cv) ∧ (∀ j, w4.frozen? ⟨w.heap.size + 1, j, none⟩ = false) ∧ w4.cell? ⟨w.heap.size + 1, 0, none⟩ = some (.slice none 0 0) ∧ w4.cell? ⟨w.heap.size + 1, 1, none⟩ = some (.slice none 0 0) ∧ w.heap.size + 1 < w4.heap.size from fun w4 d4 => by
      have hd4 : Below W.heap.size W w4 := (Below.drew (Below.refl _ W)).trans d4
      have hr4 := hr.below hd4 hr.lt
      have r0 := hr4.cell 0
      have r1 := hr4.cell 1
      simp only [List.getElem?_toArray, List.getElem?_cons_zero, List.getElem?_cons_succ] at r0 r1
      exact ⟨(boxed_later hc hd4).cell, fun j => hr4.frozen j, r0, r1, hr4.lt⟩)
    have x0' : W.drew.cell? ⟨w.heap.size, 0, none⟩ = some (.slice A n c) := x0
    have hcell' : W.drew.cell? ⟨bj, 0, none⟩ = some (.slice Av (plRev (q.length - 1) J).length cv) := hcell
    clear hc hO hx hr hB hs hseq d3 cj3 gx3 gr3 hs3 hs3e hje hyl hO9 hIJ hK hS HA HV x0 hcell
    gi_wp2_with fail
    refine onlyN_in ?_
    gi_region_with
      (first
        | (refine ⟨trivial, ?_⟩; gi_at_call 42; refine (callsIn_wide.2 (unhide HC)).mono ?_; rintro e w4 ⟨A4, c4, rfl, o4, d4⟩; obtain ⟨e1, e2, e3, e4, e5⟩ := unhide HCC w4 d4; have e20 := e2 0; have e21 := e2 1))
    all_goals simp only [onlyN]
    all_goals rw [List.length_reverse] at o4
    all_goals obtain ⟨hK4, hWe, hG⟩ := unhide HFIN A4 c4 w4 o4 d4
    all_goals gi_wp2
    all_goals refine ⟨by simp, .inl ⟨_, _, rfl, run_takeDeferred hK4, ?_⟩⟩
    all_goals exact ⟨_, results_near Tryd.results11 _ _ (w.heap.size + 1) 26 _ (0, 0) _ rfl hWe Tryd.underlying26 rfl nearInfo, hG⟩
  case stop =>
    rintro c pre W _ h _
    exact h.elim
set_option maxHeartbeats 800000 in
theorem irevn_any (A P : Option Addr) (n c B m d B' : Nat) (q J : List Int) (w : World) (h : Arg w B A n c q) (h' : Arg w B' P m d J) :
    Calls Tryd.prog 11 #[.agg #[.slice A n c, .slice P m d]] w (GivesNB w (revQ q J) (revJJ q J) (nearOK q J)) := by
  obtain ⟨b, hok⟩ : ∃ b, nearOK q J = b := ⟨_, rfl⟩
  cases b with
  | true => rw [hok]; exact revn_yes A P n c B m d B' q J w h h' hok
  | false =>
    rw [show revQ q J = [] by unfold revQ; rw [hok]; rfl, show revJJ q J = [] by unfold revJJ; rw [hok]; rfl, hok]
    obtain ⟨w0, hw0⟩ : ∃ w0, w0 = (w.alloc (.cells #[.slice A n c, .slice P m d] 26)).alloc (.cells #[.slice none 0 0, .slice none 0 0] 26) := ⟨_, rfl⟩
    have b0 : Below w.heap.size w w0 := by rw [hw0]; exact ((Below.refl _ w).alloc (Nat.le_refl _) _).alloc (by simp) _
    have gx : Whole w0 w.heap.size 26 #[.slice A n c, .slice P m d] := by rw [hw0]; exact (Whole.new _ _ _).alloc _
    have gr : Whole w0 (w.heap.size + 1) 26 #[.slice none 0 0, .slice none 0 0] := by
      rw [hw0]
      have := Whole.new (w.alloc (.cells #[.slice A n c, .slice P m d] 26)) 26 #[.slice none 0 0, .slice none 0 0]
      rwa [World.size_alloc] at this
    have x0 := gx.cell 0
    have x1 := gx.cell 1
    simp only [List.getElem?_toArray, List.getElem?_cons_zero, List.getElem?_cons_succ] at x0 x1
    have H1 := hide (inear_any A P n c B m d B' q J w0 (h.below b0) (h'.below b0))
    rw [hok] at H1
    have HW0 := hide hw0
    have HGR := hide gr
    rw [hw0] at x0 x1
    clear h h' hok hw0 gx gr
    go_enter Tryd.func11, Tryd.ntmps11
    go_wp2_with fail
    rw [← unhide HW0]
    refine (unhide H1).mono ?_
    rintro e w1 ⟨rfl, d1⟩
    have hR := (unhide HGR).below d1 (unhide HGR).lt
    have hB := below_after b0 d1
    have r0 := hR.cell 0
    have r1 := hR.cell 1
    have g0 := hR.frozen 0
    have g1 := hR.frozen 1
    have hltr := hR.lt
    simp only [List.getElem?_toArray, List.getElem?_cons_zero, List.getElem?_cons_succ] at r0 r1
    have HN := hide (⟨hR, hB⟩ : Whole w1 (w.heap.size + 1) 26 #[.slice none 0 0, .slice none 0 0] ∧ Below w.heap.size w w1)
    clear H1 HW0 HGR b0 d1 hR hB x0 x1
    go_wp2_with fail
    obtain ⟨hR, hB⟩ := unhide HN
    have hWe := (hR.put 0 (.slice none 0 0)).put 1 (.slice none 0 0)
    refine bodyPost_ret (v := .tuple #[.agg #[.slice none 0 0, .slice none 0 0], .bool false]) (results_near Tryd.results11 _ _ (w.heap.size + 1) 26 _ (0, 0) _ rfl hWe Tryd.underlying26 rfl nearInfo) rfl ?_
    exact GivesNB.mk false (NearAt.none_ _ _) ((hB.setCell (p := ⟨w.heap.size + 1, 0, none⟩) (Nat.le_succ _) _).setCell (p := ⟨w.heap.size + 1, 1, none⟩) (Nat.le_succ _) _)
end Go.Proofs.YtabfjmabiapgoaaDoor


/-
  laws.big, by its contract.
-/

namespace Go.Proofs.YtabfjmabiapgoaaDoor
set_option maxRecDepth 100000
open Go.RowKit
theorem big_any (A : Option Addr) (n c : Nat) (hn : n ≤ 9223372036854775807) (w : World) :
    Calls Tryd.prog 5 #[.slice A n c] w fun e w' => e = .returned (.bool (decide (1048576 < n))) ∧ w = w' := by
  go_enter Tryd.func5, Tryd.ntmps5
  go_wp2
  go_ret
  exact ⟨ret_bool (by simp; omega), rfl⟩
end Go.Proofs.YtabfjmabiapgoaaDoor
