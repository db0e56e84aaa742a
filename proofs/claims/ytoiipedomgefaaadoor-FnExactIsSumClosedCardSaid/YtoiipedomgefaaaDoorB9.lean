/-
  Words and contracts that the laws lean on, bundled: OccT, TellPush, Collect, Has, ClaA, OrdP, ClaB, ErrI, MeetP.
-/
import Derived.Test.YtoiipedomgefaaaDoorB8
import Derived.Test.YtoiipedomgefaaaDoorB3
import Derived.Test.YtoiipedomgefaaaDoorB4
import Derived.Maps.OwnIn
import Derived.Test.YtoiipedomgefaaaDoorB6
import Derived.Test.YtoiipedomgefaaaDoorB7
import Derived.Test.YtoiipedomgefaaaDoorB5
import Derived.LaidEql

/-
  impl.occurrences: an iterator over the occurrences in order; each list is new.
-/

namespace Go.Proofs.YtoiipedomgefaaaDoor
set_option maxRecDepth 100000
open Go.RowKit Go.Shelf
attribute [local go_sem] Oper.semAt_some

theorem arg_kept {w w' : World} {B n c : Nat} {A : Option Addr} {zs : List Int} (h : Arg w B A n c zs) (hs : w.heap.size ≤ w'.heap.size) (hk : ∀ k, k < B → w'.heap[k]? = w.heap[k]?) : Arg w' B A n c zs :=
  ⟨h.reads.keep fun p hp => by unfold World.cell?; rw [hk p.block hp], Nat.le_trans h.under hs, h.le, h.cap, h.small, h.nil⟩
theorem iocs_made (A A' : Option Addr) (n c n' c' : Nat) (w : World) :
    Calls Tryd.prog 103 #[.slice A n c, .slice A' n' c'] w fun e w' => e = .returned (.func (.func 115) #[] #[.pointer (some ⟨w.heap.size, 0, none⟩), .pointer (some ⟨w.heap.size + 1, 0, none⟩)]) ∧ w' = (w.alloc (.cells #[.slice A n c] 31)).alloc (.cells #[.slice A' n' c'] 31) := by
  go_enter Tryd.func103, Tryd.ntmps103
  go_wp2
  go_ret
  exact ⟨rfl, rfl⟩

/-- What a handed occurrence is. -/
def KnO (p q : List Int) (U : World) (x : Value × List Int) (V : World) : Prop := Ints V U.heap.size x.1 x.2 ∧ x.2 ∈ occR p q
/-- Each of them is one. -/
def AllIn (p q : List Int) (xs : List (Value × List Int)) : Prop := ∀ x ∈ xs, x.2 ∈ occR p q
/-- What the iterator over occurrences needs to lie as it lay. -/
structure KeptO (P : Nat → Prop) (B B' bp bq lo : Nat) : Prop where
  p : ∀ k, k < B → P k
  q : ∀ k, k < B' → P k
  bp : P bp
  bq : P bq
  zone : ∀ k, lo ≤ k → k < lo + 6 → P k
/-- What holds while it runs. -/
structure AtO (A A' : Option Addr) (n c B n' c' B' : Nat) (p q : List Int) (bp bq by_ l : Nat) (V : World) : Prop where
  p : Arg V B A n c p
  q : Arg V B' A' n' c' q
  bp : Boxed V bp 31 (.slice A n c)
  bq : Boxed V bq 31 (.slice A' n' c')
  by_ : Boxed V by_ 44 (.func (.yield l) #[] #[])

theorem AtO.below {A A' : Option Addr} {n c B n' c' B' : Nat} {p q : List Int} {bp bq by_ l : Nat} {U V : World} (h : AtO A A' n c B n' c' B' p q bp bq by_ l U) (hb : Below U.heap.size U V) : AtO A A' n c B n' c' B' p q bp bq by_ l V :=
  ⟨h.p.below hb, h.q.below hb, boxed_later h.bp hb, boxed_later h.bq hb, boxed_later h.by_ hb⟩
theorem AtO.drew {A A' : Option Addr} {n c B n' c' B' : Nat} {p q : List Int} {bp bq by_ l : Nat} {U : World} (h : AtO A A' n c B n' c' B' p q bp bq by_ l U) : AtO A A' n c B n' c' B' p q bp bq by_ l U.drew := h.below (below_drew _ U)
theorem patA_small {p pl : List Int} (hp : isP p = true) (h : PlOK p.length pl) : Small (patA p pl) := fun z hz => by
  obtain ⟨k, hk⟩ := List.getElem?_of_mem hz
  have h1 : isP (patA p pl) = true := by unfold patA; rw [isP_pat]; exact nums_patOK hp h
  have := isP_range h1 hk
  have := isP_le h1
  omega
set_option maxRecDepth 100000 in
set_option maxHeartbeats 4000000 in
theorem occ_tell (A A' : Option Addr) (n c B n' c' B' : Nat) (p q : List Int) (hp : isP p = true) (hq : isP q = true) (P : Nat → Prop) (bp bq N : Nat) (w : World) (hpA : Arg w B A n c p) (hqA : Arg w B' A' n' c' q)
    (hbp : Boxed w bp 31 (.slice A n c)) (hbq : Boxed w bq 31 (.slice A' n' c')) (hk : KeptO P B B' bp bq (w.heap.size + 2)) (m : Nat) (hN : (chR n n').length ≤ N) :
    TellsZ Fence.wide m Tryd.prog 115 #[.pointer (some ⟨bp, 0, none⟩), .pointer (some ⟨bq, 0, none⟩)] 6 (fun x : Value × List Int => #[x.1]) (KnO p q) (Keep P) (fun xs => xs.map (·.2) = occR p q) (AllIn p q) N w := by
  intro l J Jx W hW hsz hJ hJx hY h0
  change CallsIn Fence.wide m Tryd.prog 115 #[.func (.yield l) #[] #[], .pointer (some ⟨bp, 0, none⟩), .pointer (some ⟨bq, 0, none⟩)] W _
  have hn8 : n ≤ 8 := by have := isP_le hp; have := hpA.len; omega
  have hn8' : n' ≤ 8 := by have := isP_le hq; have := hqA.len; omega
  have hbpl := Boxed.lt hbp
  have hbql := Boxed.lt hbq
  have hBu := hpA.under
  have hBu' := hqA.under
  -- the world ahead of the loop
  obtain ⟨w1, hw1⟩ : ∃ w1, w1 = W.alloc (.cells #[.func (.yield l) #[] #[]] 44) := ⟨_, rfl⟩
  have hs1 : w1.heap.size = w.heap.size + 3 := by rw [hw1]; simp [hsz]
  have hb1 : Below W.heap.size W w1 := by rw [hw1]; exact (Below.refl _ W).alloc (Nat.le_refl _) _
  obtain ⟨w3, hw3⟩ : ∃ w3, w3 = (w1.alloc (.cells #[.int .i64 n] 3)).alloc (.cells #[.int .i64 n'] 3) := ⟨_, rfl⟩
  have hs3 : w3.heap.size = w.heap.size + 5 := by rw [hw3]; simp [hs1]
  have hb3 : Below w1.heap.size w1 w3 := by rw [hw3]; exact ((Below.refl _ w1).alloc (Nat.le_refl _) _).alloc (by simp) _
  have hbW3 : Below W.heap.size W w3 := below_after hb1 hb3
  have hbw1 : Below w.heap.size w w1 := below_after hW hb1
  have hbw3 : Below w.heap.size w w3 := below_after hW hbW3
  have hby1 : Boxed w1 (w.heap.size + 2) 44 (.func (.yield l) #[] #[]) := by rw [hw1, ← hsz]; exact Boxed.new W _ _
  have hAt : AtO A A' n c B n' c' B' p q bp bq (w.heap.size + 2) l w3 := ⟨hpA.below hbw3, hqA.below hbw3, boxed_later hbp hbw3, boxed_later hbq hbw3, boxed_later hby1 hb3⟩
  have hbn : Boxed w3 (w.heap.size + 3) 3 (.int .i64 n) := by rw [hw3, ← hs1]; exact Boxed.alloc (Boxed.new w1 _ _) _
  have hbk : Boxed w3 (w.heap.size + 4) 3 (.int .i64 n') := by
    have := Boxed.new (w1.alloc (.cells #[.int .i64 n] 3)) 3 (.int .i64 n')
    rw [World.size_alloc, hs1] at this
    rw [hw3]; exact this
  have hJ3 : J [] w3 := hJ _ _ _ h0 (But.of_below hbW3)
  have hseq := choices_tell n n' N (w.heap.size + 3) (w.heap.size + 4) hn8 hn8' hN 3 w3 hbn hbk
  have hcp1 := Boxed.cell (boxed_later hbp hbw1)
  have hcq1 := Boxed.cell (boxed_later hbq hbw1)
  have HC := hide (fun w' => icho_any n n' w')
  refine callsIn_wide.2 ((callsIn_wide (n := 4)).1 ?_)
  refine callsIn_of_wp_marks Tryd.func115 rfl trivial ?_ rfl
  simp only [Tryd.ntmps115, List.size_toArray, List.length_cons, List.length_nil, Nat.reduceAdd, Nat.reduceSub, Array.replicate_succ, Array.replicate_zero, List.push_toArray, List.append_toArray, List.nil_append, List.cons_append]
  rw [hw1] at hcp1 hcq1
  have HW1 := hide hw1
  have HW3 := hide hw3
  clear hw1 hw3
  gi_wp2_with fail
  refine ⟨trivial, ?_⟩
  refine (callsIn_wide.2 (unhide HC _)).mono ?_
  rintro e w2 ⟨rfl, hw2⟩
  rw [← unhide HW1, ← unhide HW3] at hw2
  subst hw2
  rw [← unhide HW1, hs1]
  clear HC HW1 HW3 hcp1 hcq1
  have HBD := hide (⟨hk, hJ, hJx⟩ : KeptO P B B' bp bq (w.heap.size + 2) ∧ (∀ pre U V, J pre U → But (w.heap.size + 2) (w.heap.size + 2 + 6) U V → J pre V) ∧ (∀ pre U V, Jx pre U → But (w.heap.size + 2) (w.heap.size + 2 + 6) U V → Jx pre V))
  have HFI := hide (occ_filter hp hq)
  have HIN := hide (show ∀ pl, patA p pl = q → pl.length = n' → PlOK n pl → pl ∈ occR p q from fun pl h1 h2 h3 => by
    have e1 := hpA.len
    have e2 := hqA.len
    exact mem_occ.2 (isOcc_iff.2 ⟨hp, hq, by omega, by rw [e1]; exact h3, h1⟩))
  have e1 := hpA.len
  have e2 := hqA.len
  have hwle := hbw3.size
  clear hW h0 hb1 hb3 hbW3 hbw1 hbw3 hby1 hbn hbk hpA hqA hbp hbq hJ hJx hk hs1
  gi_wp2
  refine range_zone rfl (by decide) (gf := 123) (lb := #[.pointer (some ⟨w.heap.size + 4, 0, none⟩), .pointer (some ⟨w.heap.size + 3, 0, none⟩)]) rfl trivial (enters_of Tryd.func123 (by kernel_rfl) rfl)
    hseq (fun h k => ⟨Nat.le_trans h.1 k.1, k.2.trans h.2⟩) (fun W r r' hd => ⟨by unfold World.putObj; simp, World.putObj_heap_other (by omega)⟩) (fun _ => rfl) (fun U V x r r' hdU hdV h => ⟨h.1.kept (World.putObj_heap_other (by omega)), h.2⟩)
    (fun pre V => ∃ xs, (J xs V ∧ xs.map (·.2) = pre.filter (fun pl => decide (patA p pl = q))) ∧ AtO A A' n c B n' c' B' p q bp bq (w.heap.size + 2) l V ∧ AllIn p q xs)
    (fun c _ V => c = .ret ∧ ∃ xs, Jx xs V ∧ AllIn p q xs)
    (fun pre U V h hb => by
      obtain ⟨xs, ⟨h1, h2⟩, h3, h4⟩ := h
      exact ⟨xs, ⟨(unhide HBD).2.1 _ _ _ h1 (hb.mono (by omega) (by omega)), h2⟩, ⟨arg_kept h3.p hb.size fun k hk => hb.block k (by have := h3.p.under; omega) (by omega), arg_kept h3.q hb.size fun k hk => hb.block k (by have := h3.q.under; omega) (by omega), Boxed.but h3.bp hb (by omega), Boxed.but h3.bq hb (by omega), Boxed.but h3.by_ hb (by omega)⟩, h4⟩)
    (fun c pre U V h hb => by
      obtain ⟨hc, xs, h1, h2⟩ := h
      exact ⟨hc, xs, (unhide HBD).2.2 _ _ _ h1 (hb.mono (by omega) (by omega)), h2⟩)
    ⟨[], ⟨hJ3, rfl⟩, hAt, fun x hx => by cases hx⟩
    (fun _ => { tmps := #[.func (.yield l) #[] #[], .pointer (some ⟨bp, 0, none⟩), .pointer (some ⟨bq, 0, none⟩), .pointer (some ⟨w.heap.size + 2, 0, none⟩), .slice (some ⟨w2.heap.size + 2, 0, none⟩) n' n', .slice A n c, .int .i64 n, .slice A' n' c', .int .i64 n',
      .func (.func 123) #[] #[.pointer (some ⟨w.heap.size + 4, 0, none⟩), .pointer (some ⟨w.heap.size + 3, 0, none⟩)], .slice (some ⟨w2.heap.size + 2, 0, none⟩) n' n', undef, undef, undef, undef, undef, undef, undef, undef, undef, undef, undef, undef], defers := [] }) ?assign ?body ?done ?stop
  case assign =>
    intro l x W K hK
    clear hs3
    gi_wp2
    exact hK
  case body =>
    rintro l2 pre pl U V ⟨xs, ⟨hJU, hxs⟩, hAtU, hall⟩ hzU hbU ⟨hbuf, hpl, hok⟩ hlen
    obtain ⟨g, hg⟩ : ∃ g, g = w2.heap.size + 2 := ⟨_, rfl⟩
    rw [← hg] at hbuf ⊢
    have hAtV0 := hAtU.below hbU
    have hAtV := hAtV0.drew
    have hJV := (unhide HBD).2.1 _ _ _ hJU (But.of_below hbU)
    have hsm : Small pl := fun z hz => by have := hok.1 z hz; omega
    have hApl := ((hpl ▸ hbuf.ints : Ints V g (.slice (some ⟨g, 0, none⟩) n' n') pl).arg (by omega) (Nat.le_refl _) hsm).drew
    have hcp := Boxed.cell hAtV.bp
    have hcq := Boxed.cell hAtV.bq
    have hcy := Boxed.cell hAtV.by_
    have H1 := hide (ipatat_any A (some ⟨g, 0, none⟩) n c B n' n' _ p pl hp (e1.symm ▸ hok) V.drew hAtV.p hApl)
    have hmx : Tryd.prog.follows .mixedOrders = true := by kernel_rfl
    by_cases hyes : patA p pl = q
    · have hdec : decide (patA p pl = q) = true := by simpa using hyes
      have H2 := hide (show ∀ (A4 : Option Addr) (c4 : Nat) (w4 : World), Ints w4 V.drew.heap.size (.slice A4 (patA p pl).length c4) (patA p pl) → Below V.drew.heap.size V.drew w4 → Calls Tryd.prog 78 #[.slice A4 (patA p pl).length c4, .slice A' n' c'] w4 fun e w' => e = .returned (.bool true) ∧ Drew w4 w' from fun A4 c4 w4 h1 h2 =>
        eqsl_any A4 A' _ c4 _ n' c' B' (patA p pl) q true hdec w4 (h1.arg (by unfold patA; rw [patL_length, nums_length]; omega) h1.cap (patA_small hp (e1.symm ▸ hok))) (hAtV.q.below h2))
      have HQ := hide (show ∀ w4, Below V.drew.heap.size V.drew w4 → w4.cell? ⟨bq, 0, none⟩ = some (.slice A' n' c') from fun w4 h => Boxed.cell (boxed_later hAtV.bq h))
      have HY := hide (show ∀ w4, Below V.drew.heap.size V.drew w4 → w4.cell? ⟨w.heap.size + 2, 0, none⟩ = some (.func (.yield l) #[] #[]) from fun w4 h => Boxed.cell (boxed_later hAtV.by_ h))
      have HCL := hide (show ∀ w5, Below V.drew.heap.size V.drew w5 → Calls Tryd.prog 56 #[.slice (some ⟨g, 0, none⟩) n' n'] w5 (GivesI w5 pl) from fun w5 h => clone_any (some ⟨g, 0, none⟩) n' n' _ pl w5 (hApl.below h))
      have HYL := hide (show ∀ (w5 w6 : World) (A6 : Option Addr) (c6 : Nat), Below V.heap.size V w5 → Below w5.heap.size w5 w6 → Ints w6 w5.heap.size (.slice A6 pl.length c6) pl → YieldAt Fence.wide 1 Tryd.prog l #[.slice A6 pl.length c6] w6 fun e V' => ∃ b : Bool, e = .returned (.bool b) ∧
          (b = true → (∀ r, Desk w2.heap.size r V → Desk w2.heap.size r V') ∧ (V.heap.size ≤ V'.heap.size ∧ V'.heap[g]? = V.heap[g]?) ∧ ∃ xs, (J xs V' ∧ xs.map (·.2) = (pre ++ [pl]).filter (fun pl => decide (patA p pl = q))) ∧ AtO A A' n c B n' c' B' p q bp bq (w.heap.size + 2) l V' ∧ AllIn p q xs) ∧
          (b = false → (∀ r, Desk w2.heap.size r V → Desk w2.heap.size r V') ∧ (V.heap.size ≤ V'.heap.size ∧ V'.heap[g]? = V.heap[g]?) ∧ ∃ xs, Jx xs V' ∧ AllIn p q xs) from fun w5 w6 A6 c6 h5 h6 hI => by
        have hin := unhide HIN pl hyes hpl hok
        have hk := (unhide HBD).1
        have hz5 := h5.size
        have hz6 := h6.size
        have hbs := hbU.size
        have hxl : xs.length < N := by
          have h1 := congrArg List.length hxs
          have h2 := List.length_filter_le (fun pl => decide (patA p pl = q)) pre
          rw [List.length_map] at h1
          omega
        have hV6 : Below V.heap.size V w6 := below_after h5 h6
        have hglt := hbuf.lt
        have hkeep : ∀ V', Keep P w6 V' → (∀ r, Desk w2.heap.size r V → Desk w2.heap.size r V') ∧ (V.heap.size ≤ V'.heap.size ∧ V'.heap[g]? = V.heap[g]?) := fun V' h =>
          ⟨fun r hd => h.desk (hd.later hV6) (hk.zone _ (by omega) (by omega)) (hk.zone _ (by omega) (by omega)), Nat.le_trans hV6.size h.size, (h.block g (by omega) (hk.zone _ (by omega) (by omega))).trans (hV6.block g hglt)⟩
        have hall2 : AllIn p q (xs ++ [(.slice A6 pl.length c6, pl)]) := fun x hx => by
          rcases List.mem_append.1 hx with h | h
          · exact hall x h
          · rw [List.mem_singleton.1 h]; exact hin
        refine (round_any rfl (hY xs (.slice A6 pl.length c6, pl) w5 w6 ((unhide HBD).2.1 _ _ _ hJV (But.of_below h5)) (by omega) h6 ⟨hI, hin⟩ hxl)).mono ?_
        rintro e V' (⟨rfl, h1, h2⟩ | ⟨rfl, h1, h2⟩)
        · refine ⟨true, rfl, fun _ => ⟨(hkeep V' h2).1, (hkeep V' h2).2, xs ++ [(.slice A6 pl.length c6, pl)], ⟨h1, by rw [List.map_append, hxs, List.filter_append]; simp [hyes]⟩, ?_, hall2⟩, fun h => (by cases h)⟩
          have h6 := hAtV0.below hV6
          exact ⟨arg_kept h6.p h2.size fun k hkk => h2.block k (by have := h6.p.under; omega) (hk.p k hkk), arg_kept h6.q h2.size fun k hkk => h2.block k (by have := h6.q.under; omega) (hk.q k hkk), h2.boxed h6.bp hk.bp, h2.boxed h6.bq hk.bq, h2.boxed h6.by_ (hk.zone _ (by omega) (by omega))⟩
        · exact ⟨false, rfl, fun h => (by cases h), fun _ => ⟨(hkeep V' h2).1, (hkeep V' h2).2, xs ++ [(.slice A6 pl.length c6, pl)], h1, hall2⟩⟩)
      have HG := hide (⟨hg, hs3⟩ : g = w2.heap.size + 2 ∧ w2.heap.size = w.heap.size + 5)
      clear hseq hAtU hAtV hAtV0 hApl hJU hJV hbuf hxs hall hyes hg hs3 hY hpl
      gi_wp2_with fail
      refine region_round l2 rfl (by kernel_rfl) hmx ?_
      change wpAnyIn _ _ _ _ _ _ _ _ _ (World.drew _)
--REGION-YES
      refine wpAnyIn_take (i := 1) (v := .slice (some ⟨g, 0, none⟩) n' n') rfl rfl (by kernel_rfl) (by kernel_rfl) (by kernel_rfl) (fun _ _ _ h => h) ⟨Or.inl ⟨by rfl, fun w => by go_simp⟩, fun _ => rfl⟩ ?_
      simp only [Act.put]
      refine wpAnyIn_ready (rs := [0, 3]) (by kernel_rfl) (by simp) ?_
      refine AllReadyIn.cons rfl (fun K hK => ?_) (AllReadyIn.cons rfl (fun K hK => ?_) (AllReadyIn.nil))
      · skip
        go_simp
        refine hK _ _ ?_
        clear hK K
        refine wpAnyIn_ready (rs := [2, 3]) (by kernel_rfl) (by simp) ?_
        refine AllReadyIn.cons rfl (fun K hK => ?_) (AllReadyIn.cons rfl (fun K hK => ?_) (AllReadyIn.nil))
        · skip
          go_simp
          refine ⟨trivial, ?_⟩
          refine (callsIn_wide.2 (unhide H1)).mono ?_
          rintro e w4 ⟨A4, c4, rfl, o4, d4⟩
          have hq4 := unhide HQ w4 d4
          have H3 := hide (unhide H2 A4 c4 w4 o4 d4)
          refine hK _ _ ?_
          clear hK K
          refine wpAnyIn_ready (rs := [3]) (by kernel_rfl) (by simp) ?_
          refine AllReadyIn.cons rfl (fun K hK => ?_) (AllReadyIn.nil)
          go_simp
          refine hK _ _ ?_
          clear hK K
          refine wpAnyIn_ready (rs := [4]) (by kernel_rfl) (by simp) ?_
          refine AllReadyIn.cons rfl (fun K hK => ?_) (AllReadyIn.nil)
          go_simp
          refine ⟨trivial, ?_⟩
          refine (callsIn_wide.2 (unhide H3)).mono ?_
          rintro e w5 ⟨rfl, d5⟩
          have hb5 := d4.trans (d5.below _)
          have hy5 := unhide HY w5 hb5
          have H4 := hide (unhide HCL w5 hb5)
          refine hK _ _ ?_
          clear hK K
          refine wpAnyIn_take (i := 5) (v := .bool true) rfl rfl (by kernel_rfl) (by kernel_rfl) (by kernel_rfl) (fun _ _ _ h => h) ⟨Or.inl ⟨by rfl, fun w => by go_simp⟩, fun _ => rfl⟩ ?_
          simp only [Act.put]
          refine wpAnyIn_take (i := 7) (v := .slice (some ⟨g, 0, none⟩) n' n') rfl rfl (by kernel_rfl) (by kernel_rfl) (by kernel_rfl) (fun _ _ _ h => h) ⟨Or.inl ⟨by rfl, fun w => by go_simp⟩, fun _ => rfl⟩ ?_
          simp only [Act.put]
          refine wpAnyIn_ready (rs := [6, 8]) (by kernel_rfl) (by simp) ?_
          refine AllReadyIn.cons rfl (fun K hK => ?_) (AllReadyIn.cons rfl (fun K hK => ?_) (AllReadyIn.nil))
          · skip
            go_simp
            refine hK _ _ ?_
            clear hK K
            refine wpAnyIn_ready (rs := [8]) (by kernel_rfl) (by simp) ?_
            refine AllReadyIn.cons rfl (fun K hK => ?_) (AllReadyIn.nil)
            go_simp
            refine ⟨trivial, ?_⟩
            refine (callsIn_wide.2 (unhide H4)).mono ?_
            rintro e w6 ⟨A6, c6, rfl, o6, d6⟩
            have hy6 := unhide HY w6 (below_after hb5 d6)
            obtain ⟨fn, tmps, assign, body, hy, hR⟩ := unhide HYL w5 w6 A6 c6 ((below_drew V.heap.size V).trans hb5) d6 o6
            refine hK _ _ ?_
            clear hK K
            refine wpAnyIn_ready (rs := [9]) (by kernel_rfl) (by simp) ?_
            refine AllReadyIn.cons rfl (fun K hK => ?_) (AllReadyIn.nil)
            go_simp
            refine hR.mono ?_
            rintro e w7 ⟨b, rfl, ht, hf⟩
            refine hK _ _ ?_
            clear hK K
            refine wpAnyIn_take (i := 10) (v := .bool (!b)) rfl rfl (by kernel_rfl) (by kernel_rfl) (by kernel_rfl) (fun _ _ _ h => h) ⟨Or.inl ⟨by rfl, fun w => by go_simp⟩, fun _ => rfl⟩ ?_
            simp only [Act.put]
            refine wpAnyIn_take (i := 11) (v := .bool (!b)) rfl rfl (by kernel_rfl) (by kernel_rfl) (by kernel_rfl) (fun _ _ _ h => h) ⟨Or.inl ⟨by rfl, fun w => by go_simp⟩, fun _ => rfl⟩ ?_
            simp only [Act.put]
            refine wpAnyIn_done (by kernel_rfl) ?_ _
            cases b with
            | true =>
              have hend := ht rfl
              clear ht hf hR hy
              gi_wp2
              exact hend
            | false =>
              have hend := hf rfl
              clear ht hf hR hy
              gi_wp2
              exact ⟨hend.1, hend.2.1, rfl, hend.2.2⟩
          · skip
            go_simp
            refine ⟨trivial, ?_⟩
            refine (callsIn_wide.2 (unhide H4)).mono ?_
            rintro e w6 ⟨A6, c6, rfl, o6, d6⟩
            have hy6 := unhide HY w6 (below_after hb5 d6)
            obtain ⟨fn, tmps, assign, body, hy, hR⟩ := unhide HYL w5 w6 A6 c6 ((below_drew V.heap.size V).trans hb5) d6 o6
            refine hK _ _ ?_
            clear hK K
            refine wpAnyIn_ready (rs := [6]) (by kernel_rfl) (by simp) ?_
            refine AllReadyIn.cons rfl (fun K hK => ?_) (AllReadyIn.nil)
            go_simp
            refine hK _ _ ?_
            clear hK K
            refine wpAnyIn_ready (rs := [9]) (by kernel_rfl) (by simp) ?_
            refine AllReadyIn.cons rfl (fun K hK => ?_) (AllReadyIn.nil)
            go_simp
            refine hR.mono ?_
            rintro e w7 ⟨b, rfl, ht, hf⟩
            refine hK _ _ ?_
            clear hK K
            refine wpAnyIn_take (i := 10) (v := .bool (!b)) rfl rfl (by kernel_rfl) (by kernel_rfl) (by kernel_rfl) (fun _ _ _ h => h) ⟨Or.inl ⟨by rfl, fun w => by go_simp⟩, fun _ => rfl⟩ ?_
            simp only [Act.put]
            refine wpAnyIn_take (i := 11) (v := .bool (!b)) rfl rfl (by kernel_rfl) (by kernel_rfl) (by kernel_rfl) (fun _ _ _ h => h) ⟨Or.inl ⟨by rfl, fun w => by go_simp⟩, fun _ => rfl⟩ ?_
            simp only [Act.put]
            refine wpAnyIn_done (by kernel_rfl) ?_ _
            cases b with
            | true =>
              have hend := ht rfl
              clear ht hf hR hy
              gi_wp2
              exact hend
            | false =>
              have hend := hf rfl
              clear ht hf hR hy
              gi_wp2
              exact ⟨hend.1, hend.2.1, rfl, hend.2.2⟩
        · skip
          go_simp
          refine hK _ _ ?_
          clear hK K
          refine wpAnyIn_ready (rs := [2]) (by kernel_rfl) (by simp) ?_
          refine AllReadyIn.cons rfl (fun K hK => ?_) (AllReadyIn.nil)
          go_simp
          refine ⟨trivial, ?_⟩
          refine (callsIn_wide.2 (unhide H1)).mono ?_
          rintro e w4 ⟨A4, c4, rfl, o4, d4⟩
          have hq4 := unhide HQ w4 d4
          have H3 := hide (unhide H2 A4 c4 w4 o4 d4)
          refine hK _ _ ?_
          clear hK K
          refine wpAnyIn_ready (rs := [4]) (by kernel_rfl) (by simp) ?_
          refine AllReadyIn.cons rfl (fun K hK => ?_) (AllReadyIn.nil)
          go_simp
          refine ⟨trivial, ?_⟩
          refine (callsIn_wide.2 (unhide H3)).mono ?_
          rintro e w5 ⟨rfl, d5⟩
          have hb5 := d4.trans (d5.below _)
          have hy5 := unhide HY w5 hb5
          have H4 := hide (unhide HCL w5 hb5)
          refine hK _ _ ?_
          clear hK K
          refine wpAnyIn_take (i := 5) (v := .bool true) rfl rfl (by kernel_rfl) (by kernel_rfl) (by kernel_rfl) (fun _ _ _ h => h) ⟨Or.inl ⟨by rfl, fun w => by go_simp⟩, fun _ => rfl⟩ ?_
          simp only [Act.put]
          refine wpAnyIn_take (i := 7) (v := .slice (some ⟨g, 0, none⟩) n' n') rfl rfl (by kernel_rfl) (by kernel_rfl) (by kernel_rfl) (fun _ _ _ h => h) ⟨Or.inl ⟨by rfl, fun w => by go_simp⟩, fun _ => rfl⟩ ?_
          simp only [Act.put]
          refine wpAnyIn_ready (rs := [6, 8]) (by kernel_rfl) (by simp) ?_
          refine AllReadyIn.cons rfl (fun K hK => ?_) (AllReadyIn.cons rfl (fun K hK => ?_) (AllReadyIn.nil))
          · skip
            go_simp
            refine hK _ _ ?_
            clear hK K
            refine wpAnyIn_ready (rs := [8]) (by kernel_rfl) (by simp) ?_
            refine AllReadyIn.cons rfl (fun K hK => ?_) (AllReadyIn.nil)
            go_simp
            refine ⟨trivial, ?_⟩
            refine (callsIn_wide.2 (unhide H4)).mono ?_
            rintro e w6 ⟨A6, c6, rfl, o6, d6⟩
            have hy6 := unhide HY w6 (below_after hb5 d6)
            obtain ⟨fn, tmps, assign, body, hy, hR⟩ := unhide HYL w5 w6 A6 c6 ((below_drew V.heap.size V).trans hb5) d6 o6
            refine hK _ _ ?_
            clear hK K
            refine wpAnyIn_ready (rs := [9]) (by kernel_rfl) (by simp) ?_
            refine AllReadyIn.cons rfl (fun K hK => ?_) (AllReadyIn.nil)
            go_simp
            refine hR.mono ?_
            rintro e w7 ⟨b, rfl, ht, hf⟩
            refine hK _ _ ?_
            clear hK K
            refine wpAnyIn_take (i := 10) (v := .bool (!b)) rfl rfl (by kernel_rfl) (by kernel_rfl) (by kernel_rfl) (fun _ _ _ h => h) ⟨Or.inl ⟨by rfl, fun w => by go_simp⟩, fun _ => rfl⟩ ?_
            simp only [Act.put]
            refine wpAnyIn_take (i := 11) (v := .bool (!b)) rfl rfl (by kernel_rfl) (by kernel_rfl) (by kernel_rfl) (fun _ _ _ h => h) ⟨Or.inl ⟨by rfl, fun w => by go_simp⟩, fun _ => rfl⟩ ?_
            simp only [Act.put]
            refine wpAnyIn_done (by kernel_rfl) ?_ _
            cases b with
            | true =>
              have hend := ht rfl
              clear ht hf hR hy
              gi_wp2
              exact hend
            | false =>
              have hend := hf rfl
              clear ht hf hR hy
              gi_wp2
              exact ⟨hend.1, hend.2.1, rfl, hend.2.2⟩
          · skip
            go_simp
            refine ⟨trivial, ?_⟩
            refine (callsIn_wide.2 (unhide H4)).mono ?_
            rintro e w6 ⟨A6, c6, rfl, o6, d6⟩
            have hy6 := unhide HY w6 (below_after hb5 d6)
            obtain ⟨fn, tmps, assign, body, hy, hR⟩ := unhide HYL w5 w6 A6 c6 ((below_drew V.heap.size V).trans hb5) d6 o6
            refine hK _ _ ?_
            clear hK K
            refine wpAnyIn_ready (rs := [6]) (by kernel_rfl) (by simp) ?_
            refine AllReadyIn.cons rfl (fun K hK => ?_) (AllReadyIn.nil)
            go_simp
            refine hK _ _ ?_
            clear hK K
            refine wpAnyIn_ready (rs := [9]) (by kernel_rfl) (by simp) ?_
            refine AllReadyIn.cons rfl (fun K hK => ?_) (AllReadyIn.nil)
            go_simp
            refine hR.mono ?_
            rintro e w7 ⟨b, rfl, ht, hf⟩
            refine hK _ _ ?_
            clear hK K
            refine wpAnyIn_take (i := 10) (v := .bool (!b)) rfl rfl (by kernel_rfl) (by kernel_rfl) (by kernel_rfl) (fun _ _ _ h => h) ⟨Or.inl ⟨by rfl, fun w => by go_simp⟩, fun _ => rfl⟩ ?_
            simp only [Act.put]
            refine wpAnyIn_take (i := 11) (v := .bool (!b)) rfl rfl (by kernel_rfl) (by kernel_rfl) (by kernel_rfl) (fun _ _ _ h => h) ⟨Or.inl ⟨by rfl, fun w => by go_simp⟩, fun _ => rfl⟩ ?_
            simp only [Act.put]
            refine wpAnyIn_done (by kernel_rfl) ?_ _
            cases b with
            | true =>
              have hend := ht rfl
              clear ht hf hR hy
              gi_wp2
              exact hend
            | false =>
              have hend := hf rfl
              clear ht hf hR hy
              gi_wp2
              exact ⟨hend.1, hend.2.1, rfl, hend.2.2⟩
      · skip
        go_simp
        refine hK _ _ ?_
        clear hK K
        refine wpAnyIn_ready (rs := [0]) (by kernel_rfl) (by simp) ?_
        refine AllReadyIn.cons rfl (fun K hK => ?_) (AllReadyIn.nil)
        go_simp
        refine hK _ _ ?_
        clear hK K
        refine wpAnyIn_ready (rs := [2]) (by kernel_rfl) (by simp) ?_
        refine AllReadyIn.cons rfl (fun K hK => ?_) (AllReadyIn.nil)
        go_simp
        refine ⟨trivial, ?_⟩
        refine (callsIn_wide.2 (unhide H1)).mono ?_
        rintro e w4 ⟨A4, c4, rfl, o4, d4⟩
        have hq4 := unhide HQ w4 d4
        have H3 := hide (unhide H2 A4 c4 w4 o4 d4)
        refine hK _ _ ?_
        clear hK K
        refine wpAnyIn_ready (rs := [4]) (by kernel_rfl) (by simp) ?_
        refine AllReadyIn.cons rfl (fun K hK => ?_) (AllReadyIn.nil)
        go_simp
        refine ⟨trivial, ?_⟩
        refine (callsIn_wide.2 (unhide H3)).mono ?_
        rintro e w5 ⟨rfl, d5⟩
        have hb5 := d4.trans (d5.below _)
        have hy5 := unhide HY w5 hb5
        have H4 := hide (unhide HCL w5 hb5)
        refine hK _ _ ?_
        clear hK K
        refine wpAnyIn_take (i := 5) (v := .bool true) rfl rfl (by kernel_rfl) (by kernel_rfl) (by kernel_rfl) (fun _ _ _ h => h) ⟨Or.inl ⟨by rfl, fun w => by go_simp⟩, fun _ => rfl⟩ ?_
        simp only [Act.put]
        refine wpAnyIn_take (i := 7) (v := .slice (some ⟨g, 0, none⟩) n' n') rfl rfl (by kernel_rfl) (by kernel_rfl) (by kernel_rfl) (fun _ _ _ h => h) ⟨Or.inl ⟨by rfl, fun w => by go_simp⟩, fun _ => rfl⟩ ?_
        simp only [Act.put]
        refine wpAnyIn_ready (rs := [6, 8]) (by kernel_rfl) (by simp) ?_
        refine AllReadyIn.cons rfl (fun K hK => ?_) (AllReadyIn.cons rfl (fun K hK => ?_) (AllReadyIn.nil))
        · skip
          go_simp
          refine hK _ _ ?_
          clear hK K
          refine wpAnyIn_ready (rs := [8]) (by kernel_rfl) (by simp) ?_
          refine AllReadyIn.cons rfl (fun K hK => ?_) (AllReadyIn.nil)
          go_simp
          refine ⟨trivial, ?_⟩
          refine (callsIn_wide.2 (unhide H4)).mono ?_
          rintro e w6 ⟨A6, c6, rfl, o6, d6⟩
          have hy6 := unhide HY w6 (below_after hb5 d6)
          obtain ⟨fn, tmps, assign, body, hy, hR⟩ := unhide HYL w5 w6 A6 c6 ((below_drew V.heap.size V).trans hb5) d6 o6
          refine hK _ _ ?_
          clear hK K
          refine wpAnyIn_ready (rs := [9]) (by kernel_rfl) (by simp) ?_
          refine AllReadyIn.cons rfl (fun K hK => ?_) (AllReadyIn.nil)
          go_simp
          refine hR.mono ?_
          rintro e w7 ⟨b, rfl, ht, hf⟩
          refine hK _ _ ?_
          clear hK K
          refine wpAnyIn_take (i := 10) (v := .bool (!b)) rfl rfl (by kernel_rfl) (by kernel_rfl) (by kernel_rfl) (fun _ _ _ h => h) ⟨Or.inl ⟨by rfl, fun w => by go_simp⟩, fun _ => rfl⟩ ?_
          simp only [Act.put]
          refine wpAnyIn_take (i := 11) (v := .bool (!b)) rfl rfl (by kernel_rfl) (by kernel_rfl) (by kernel_rfl) (fun _ _ _ h => h) ⟨Or.inl ⟨by rfl, fun w => by go_simp⟩, fun _ => rfl⟩ ?_
          simp only [Act.put]
          refine wpAnyIn_done (by kernel_rfl) ?_ _
          cases b with
          | true =>
            have hend := ht rfl
            clear ht hf hR hy
            gi_wp2
            exact hend
          | false =>
            have hend := hf rfl
            clear ht hf hR hy
            gi_wp2
            exact ⟨hend.1, hend.2.1, rfl, hend.2.2⟩
        · skip
          go_simp
          refine ⟨trivial, ?_⟩
          refine (callsIn_wide.2 (unhide H4)).mono ?_
          rintro e w6 ⟨A6, c6, rfl, o6, d6⟩
          have hy6 := unhide HY w6 (below_after hb5 d6)
          obtain ⟨fn, tmps, assign, body, hy, hR⟩ := unhide HYL w5 w6 A6 c6 ((below_drew V.heap.size V).trans hb5) d6 o6
          refine hK _ _ ?_
          clear hK K
          refine wpAnyIn_ready (rs := [6]) (by kernel_rfl) (by simp) ?_
          refine AllReadyIn.cons rfl (fun K hK => ?_) (AllReadyIn.nil)
          go_simp
          refine hK _ _ ?_
          clear hK K
          refine wpAnyIn_ready (rs := [9]) (by kernel_rfl) (by simp) ?_
          refine AllReadyIn.cons rfl (fun K hK => ?_) (AllReadyIn.nil)
          go_simp
          refine hR.mono ?_
          rintro e w7 ⟨b, rfl, ht, hf⟩
          refine hK _ _ ?_
          clear hK K
          refine wpAnyIn_take (i := 10) (v := .bool (!b)) rfl rfl (by kernel_rfl) (by kernel_rfl) (by kernel_rfl) (fun _ _ _ h => h) ⟨Or.inl ⟨by rfl, fun w => by go_simp⟩, fun _ => rfl⟩ ?_
          simp only [Act.put]
          refine wpAnyIn_take (i := 11) (v := .bool (!b)) rfl rfl (by kernel_rfl) (by kernel_rfl) (by kernel_rfl) (fun _ _ _ h => h) ⟨Or.inl ⟨by rfl, fun w => by go_simp⟩, fun _ => rfl⟩ ?_
          simp only [Act.put]
          refine wpAnyIn_done (by kernel_rfl) ?_ _
          cases b with
          | true =>
            have hend := ht rfl
            clear ht hf hR hy
            gi_wp2
            exact hend
          | false =>
            have hend := hf rfl
            clear ht hf hR hy
            gi_wp2
            exact ⟨hend.1, hend.2.1, rfl, hend.2.2⟩
--END-YES
    · have hdec : decide (patA p pl = q) = false := by simpa using hyes
      have H2 := hide (show ∀ (A4 : Option Addr) (c4 : Nat) (w4 : World), Ints w4 V.drew.heap.size (.slice A4 (patA p pl).length c4) (patA p pl) → Below V.drew.heap.size V.drew w4 → Calls Tryd.prog 78 #[.slice A4 (patA p pl).length c4, .slice A' n' c'] w4 fun e w' => e = .returned (.bool false) ∧ Drew w4 w' from fun A4 c4 w4 h1 h2 =>
        eqsl_any A4 A' _ c4 _ n' c' B' (patA p pl) q false hdec w4 (h1.arg (by unfold patA; rw [patL_length, nums_length]; omega) h1.cap (patA_small hp (e1.symm ▸ hok))) (hAtV.q.below h2))
      have HQ := hide (show ∀ w4, Below V.drew.heap.size V.drew w4 → w4.cell? ⟨bq, 0, none⟩ = some (.slice A' n' c') from fun w4 h => Boxed.cell (boxed_later hAtV.bq h))
      have HEND := hide (show ∀ w5, Below V.heap.size V w5 → (∀ r, Desk w2.heap.size r V → Desk w2.heap.size r w5) ∧ (V.heap.size ≤ w5.heap.size ∧ w5.heap[g]? = V.heap[g]?) ∧ ∃ xs, (J xs w5 ∧ xs.map (·.2) = (pre ++ [pl]).filter (fun pl => decide (patA p pl = q))) ∧ AtO A A' n c B n' c' B' p q bp bq (w.heap.size + 2) l w5 ∧ AllIn p q xs from fun w5 h =>
        ⟨fun r hd => hd.later h, ⟨h.size, h.block g hbuf.lt⟩, ⟨xs, ⟨(unhide HBD).2.1 _ _ _ hJV (But.of_below h), by rw [List.filter_append, hxs]; simp [hyes]⟩, hAtV0.below h, hall⟩⟩)
      have HG := hide (⟨hg, hs3⟩ : g = w2.heap.size + 2 ∧ w2.heap.size = w.heap.size + 5)
      clear hseq hAtU hAtV hAtV0 hApl hJU hJV hbuf hxs hall hyes hg hs3
      gi_wp2_with fail
      refine region_round l2 rfl (by kernel_rfl) hmx ?_
      change wpAnyIn _ _ _ _ _ _ _ _ _ (World.drew _)
--REGION-NO
      refine wpAnyIn_take (i := 1) (v := .slice (some ⟨g, 0, none⟩) n' n') rfl rfl (by kernel_rfl) (by kernel_rfl) (by kernel_rfl) (fun _ _ _ h => h) ⟨Or.inl ⟨by rfl, fun w => by go_simp⟩, fun _ => rfl⟩ ?_
      simp only [Act.put]
      refine wpAnyIn_ready (rs := [0, 3]) (by kernel_rfl) (by simp) ?_
      refine AllReadyIn.cons rfl (fun K hK => ?_) (AllReadyIn.cons rfl (fun K hK => ?_) (AllReadyIn.nil))
      · skip
        go_simp
        refine hK _ _ ?_
        clear hK K
        refine wpAnyIn_ready (rs := [2, 3]) (by kernel_rfl) (by simp) ?_
        refine AllReadyIn.cons rfl (fun K hK => ?_) (AllReadyIn.cons rfl (fun K hK => ?_) (AllReadyIn.nil))
        · skip
          go_simp
          refine ⟨trivial, ?_⟩
          refine (callsIn_wide.2 (unhide H1)).mono ?_
          rintro e w4 ⟨A4, c4, rfl, o4, d4⟩
          have hq4 := unhide HQ w4 d4
          have H3 := hide (unhide H2 A4 c4 w4 o4 d4)
          refine hK _ _ ?_
          clear hK K
          refine wpAnyIn_ready (rs := [3]) (by kernel_rfl) (by simp) ?_
          refine AllReadyIn.cons rfl (fun K hK => ?_) (AllReadyIn.nil)
          go_simp
          refine hK _ _ ?_
          clear hK K
          refine wpAnyIn_ready (rs := [4]) (by kernel_rfl) (by simp) ?_
          refine AllReadyIn.cons rfl (fun K hK => ?_) (AllReadyIn.nil)
          go_simp
          refine ⟨trivial, ?_⟩
          refine (callsIn_wide.2 (unhide H3)).mono ?_
          rintro e w5 ⟨rfl, d5⟩
          refine hK _ _ ?_
          clear hK K
          refine wpAnyIn_take (i := 5) (v := .bool false) rfl rfl (by kernel_rfl) (by kernel_rfl) (by kernel_rfl) (fun _ _ _ h => h) ⟨Or.inl ⟨by rfl, fun w => by go_simp⟩, fun _ => rfl⟩ ?_
          simp only [Act.put]
          refine wpAnyIn_take (i := 6) (v := undef) rfl rfl (by kernel_rfl) (by kernel_rfl) (by kernel_rfl) (fun _ _ _ h => h) ⟨Or.inr ⟨by rfl, rfl⟩, fun _ => rfl⟩ ?_
          simp only [Act.put]
          refine wpAnyIn_take (i := 7) (v := undef) rfl rfl (by kernel_rfl) (by kernel_rfl) (by kernel_rfl) (fun _ _ _ h => h) ⟨Or.inr ⟨by rfl, rfl⟩, fun _ => rfl⟩ ?_
          simp only [Act.put]
          refine wpAnyIn_ready (rs := [8]) (by kernel_rfl) (by simp) ?_
          refine AllReadyIn.cons rfl (fun K hK => ?_) (AllReadyIn.nil)
          go_simp
          refine ⟨trivial, hK _ _ ?_⟩
          clear hK K
          refine wpAnyIn_ready (rs := [9]) (by kernel_rfl) (by simp) ?_
          refine AllReadyIn.cons rfl (fun K hK => ?_) (AllReadyIn.nil)
          go_simp
          first | refine hK _ _ ?_ | refine ⟨fun _ h => (by cases h), hK _ _ ?_⟩
          clear hK K
          refine wpAnyIn_ready (rs := [10]) (by kernel_rfl) (by simp) ?_
          refine AllReadyIn.cons rfl (fun K hK => ?_) (AllReadyIn.nil)
          go_simp
          refine hK _ _ ?_
          clear hK K
          refine wpAnyIn_take (i := 11) (v := .bool false) rfl rfl (by kernel_rfl) (by kernel_rfl) (by kernel_rfl) (fun _ _ _ h => h) ⟨Or.inl ⟨by rfl, fun w => by go_simp⟩, fun _ => rfl⟩ ?_
          simp only [Act.put]
          refine wpAnyIn_done (by kernel_rfl) ?_ _
          have hend := unhide HEND w5 (((below_drew V.heap.size V).trans d4).trans (d5.below _))
          gi_wp2
          exact hend
        · skip
          go_simp
          refine hK _ _ ?_
          clear hK K
          refine wpAnyIn_ready (rs := [2]) (by kernel_rfl) (by simp) ?_
          refine AllReadyIn.cons rfl (fun K hK => ?_) (AllReadyIn.nil)
          go_simp
          refine ⟨trivial, ?_⟩
          refine (callsIn_wide.2 (unhide H1)).mono ?_
          rintro e w4 ⟨A4, c4, rfl, o4, d4⟩
          have hq4 := unhide HQ w4 d4
          have H3 := hide (unhide H2 A4 c4 w4 o4 d4)
          refine hK _ _ ?_
          clear hK K
          refine wpAnyIn_ready (rs := [4]) (by kernel_rfl) (by simp) ?_
          refine AllReadyIn.cons rfl (fun K hK => ?_) (AllReadyIn.nil)
          go_simp
          refine ⟨trivial, ?_⟩
          refine (callsIn_wide.2 (unhide H3)).mono ?_
          rintro e w5 ⟨rfl, d5⟩
          refine hK _ _ ?_
          clear hK K
          refine wpAnyIn_take (i := 5) (v := .bool false) rfl rfl (by kernel_rfl) (by kernel_rfl) (by kernel_rfl) (fun _ _ _ h => h) ⟨Or.inl ⟨by rfl, fun w => by go_simp⟩, fun _ => rfl⟩ ?_
          simp only [Act.put]
          refine wpAnyIn_take (i := 6) (v := undef) rfl rfl (by kernel_rfl) (by kernel_rfl) (by kernel_rfl) (fun _ _ _ h => h) ⟨Or.inr ⟨by rfl, rfl⟩, fun _ => rfl⟩ ?_
          simp only [Act.put]
          refine wpAnyIn_take (i := 7) (v := undef) rfl rfl (by kernel_rfl) (by kernel_rfl) (by kernel_rfl) (fun _ _ _ h => h) ⟨Or.inr ⟨by rfl, rfl⟩, fun _ => rfl⟩ ?_
          simp only [Act.put]
          refine wpAnyIn_ready (rs := [8]) (by kernel_rfl) (by simp) ?_
          refine AllReadyIn.cons rfl (fun K hK => ?_) (AllReadyIn.nil)
          go_simp
          refine ⟨trivial, hK _ _ ?_⟩
          clear hK K
          refine wpAnyIn_ready (rs := [9]) (by kernel_rfl) (by simp) ?_
          refine AllReadyIn.cons rfl (fun K hK => ?_) (AllReadyIn.nil)
          go_simp
          first | refine hK _ _ ?_ | refine ⟨fun _ h => (by cases h), hK _ _ ?_⟩
          clear hK K
          refine wpAnyIn_ready (rs := [10]) (by kernel_rfl) (by simp) ?_
          refine AllReadyIn.cons rfl (fun K hK => ?_) (AllReadyIn.nil)
          go_simp
          refine hK _ _ ?_
          clear hK K
          refine wpAnyIn_take (i := 11) (v := .bool false) rfl rfl (by kernel_rfl) (by kernel_rfl) (by kernel_rfl) (fun _ _ _ h => h) ⟨Or.inl ⟨by rfl, fun w => by go_simp⟩, fun _ => rfl⟩ ?_
          simp only [Act.put]
          refine wpAnyIn_done (by kernel_rfl) ?_ _
          have hend := unhide HEND w5 (((below_drew V.heap.size V).trans d4).trans (d5.below _))
          gi_wp2
          exact hend
      · skip
        go_simp
        refine hK _ _ ?_
        clear hK K
        refine wpAnyIn_ready (rs := [0]) (by kernel_rfl) (by simp) ?_
        refine AllReadyIn.cons rfl (fun K hK => ?_) (AllReadyIn.nil)
        go_simp
        refine hK _ _ ?_
        clear hK K
        refine wpAnyIn_ready (rs := [2]) (by kernel_rfl) (by simp) ?_
        refine AllReadyIn.cons rfl (fun K hK => ?_) (AllReadyIn.nil)
        go_simp
        refine ⟨trivial, ?_⟩
        refine (callsIn_wide.2 (unhide H1)).mono ?_
        rintro e w4 ⟨A4, c4, rfl, o4, d4⟩
        have hq4 := unhide HQ w4 d4
        have H3 := hide (unhide H2 A4 c4 w4 o4 d4)
        refine hK _ _ ?_
        clear hK K
        refine wpAnyIn_ready (rs := [4]) (by kernel_rfl) (by simp) ?_
        refine AllReadyIn.cons rfl (fun K hK => ?_) (AllReadyIn.nil)
        go_simp
        refine ⟨trivial, ?_⟩
        refine (callsIn_wide.2 (unhide H3)).mono ?_
        rintro e w5 ⟨rfl, d5⟩
        refine hK _ _ ?_
        clear hK K
        refine wpAnyIn_take (i := 5) (v := .bool false) rfl rfl (by kernel_rfl) (by kernel_rfl) (by kernel_rfl) (fun _ _ _ h => h) ⟨Or.inl ⟨by rfl, fun w => by go_simp⟩, fun _ => rfl⟩ ?_
        simp only [Act.put]
        refine wpAnyIn_take (i := 6) (v := undef) rfl rfl (by kernel_rfl) (by kernel_rfl) (by kernel_rfl) (fun _ _ _ h => h) ⟨Or.inr ⟨by rfl, rfl⟩, fun _ => rfl⟩ ?_
        simp only [Act.put]
        refine wpAnyIn_take (i := 7) (v := undef) rfl rfl (by kernel_rfl) (by kernel_rfl) (by kernel_rfl) (fun _ _ _ h => h) ⟨Or.inr ⟨by rfl, rfl⟩, fun _ => rfl⟩ ?_
        simp only [Act.put]
        refine wpAnyIn_ready (rs := [8]) (by kernel_rfl) (by simp) ?_
        refine AllReadyIn.cons rfl (fun K hK => ?_) (AllReadyIn.nil)
        go_simp
        refine ⟨trivial, hK _ _ ?_⟩
        clear hK K
        refine wpAnyIn_ready (rs := [9]) (by kernel_rfl) (by simp) ?_
        refine AllReadyIn.cons rfl (fun K hK => ?_) (AllReadyIn.nil)
        go_simp
        first | refine hK _ _ ?_ | refine ⟨fun _ h => (by cases h), hK _ _ ?_⟩
        clear hK K
        refine wpAnyIn_ready (rs := [10]) (by kernel_rfl) (by simp) ?_
        refine AllReadyIn.cons rfl (fun K hK => ?_) (AllReadyIn.nil)
        go_simp
        refine hK _ _ ?_
        clear hK K
        refine wpAnyIn_take (i := 11) (v := .bool false) rfl rfl (by kernel_rfl) (by kernel_rfl) (by kernel_rfl) (fun _ _ _ h => h) ⟨Or.inl ⟨by rfl, fun w => by go_simp⟩, fun _ => rfl⟩ ?_
        simp only [Act.put]
        refine wpAnyIn_done (by kernel_rfl) ?_ _
        have hend := unhide HEND w5 (((below_drew V.heap.size V).trans d4).trans (d5.below _))
        gi_wp2
        exact hend
--END-NO
  case done =>
    rintro pls V rfl ⟨xs, ⟨hJV, hxs⟩, hAtV, hall⟩ hK
    rw [← e1, ← e2, unhide HFI] at hxs
    have hJD := (unhide HBD).2.1 _ _ _ hJV (But.putObj V (k := w2.heap.size) (by omega) (by omega) (.deferred none))
    gi_wp2
    refine ⟨by simp, .inl ⟨_, _, rfl, run_takeDeferred hK, ?_⟩⟩
    refine ⟨_, results_none rfl _ _ _, ?_⟩
    exact ⟨⟨_, rfl⟩, .inl ⟨xs, hxs, hJD⟩⟩
  case stop =>
    rintro c pre V _ ⟨rfl, xs, hJV, hall⟩ hK
    have hJD := (unhide HBD).2.2 _ _ _ hJV (But.putObj V (k := w2.heap.size) (by omega) (by omega) (.deferred none))
    gi_wp2
    refine ⟨by simp, .inl ⟨_, _, rfl, run_takeDeferred hK, ?_⟩⟩
    refine ⟨_, results_none rfl _ _ _, ?_⟩
    exact ⟨⟨_, rfl⟩, .inr ⟨xs, hall, hJD⟩⟩
end Go.Proofs.YtoiipedomgefaaaDoor


/-
  'list = append(list, row)' inside a fence (a round of a range over a function): row was made since world w0.
-/

namespace Go.Proofs.YtoiipedomgefaaaDoor
set_option maxRecDepth 100000
open Go.RowKit

theorem wpListIn_push_row {F : Fence} {nF : Nat} {ops : Array Oper} {rest : List Oper} {o : Oper} {a : Act} {W : World} {Q : Exit → Act → World → Prop} (hgd : o.guard = none) (sl x : Operand)
    (ho : o.op = .call { callee := .builtin .append, args := #[sl, x], argTypes := #[22, 22] })
    (base : Nat) (w0 wr : World) (v u : Value) (zss : List (List Int)) (zs : List Int) (hs : a.eval sl = v) (hx : a.eval x = .slice (some ⟨wr.heap.size, 0, none⟩) 1 1) (hW : W = wr.alloc (.cells #[u] 31))
    (hS : IntsS w0 base v zss) (hb0 : Below w0.heap.size w0 wr) (hu : Ints wr w0.heap.size u zs) (hn : zss.length ≤ 1048576) (hbase : base ≤ w0.heap.size)
    (K : ∀ v' w', IntsS w' base v' (zss ++ [zs]) → Below base wr w' → KeepI wr w' → (v'.ownBlock = v.ownBlock ∨ v'.ownBlock = some W.heap.size) → W.grownBy w' v.ownBlock → wpListIn F nF Tryd.prog ops Q rest (a.put o.dst v') w') : wpListIn F nF Tryd.prog ops Q (o :: rest) a W := by
  obtain ⟨i0, hi, hz0, hz1, hz2⟩ := info_parts rowsInfo
  obtain ⟨vs, hown, hin⟩ := hS
  have hown1 := own_below hown hb0
  have hal := (Below.refl wr.heap.size wr).alloc (Nat.le_refl _) (.cells #[u] 31)
  have hown2 := own_below hown1 hal
  obtain ⟨A1, c1, rfl⟩ := hu.slice
  subst hW
  refine wpListIn_append_own_at _ hgd sl x 22 ho base 31 i0 (.slice none 0 0) 1 24 Tryd.underlying22 hi hz0 hz1 hz2 rfl (by decide) v _ _ hs hown2 ⟨wr.heap.size, 0, none⟩ 1 1 [.slice A1 zs.length c1] hx rfl ?_ ?_ (by unfold maxLen; omega) (by omega) (by simp; have := hb0.size; omega) ?_
  · intro j u hj
    match j, hj with
    | 0, hj => simp at hj; subst hj; simp [Addr.add]
  · intro y hy
    obtain rfl := List.mem_singleton.1 hy
    rfl
  · intro v' w' h1 h2 _ h4
    have hk := (KeepI.of_below hal).trans (KeepI.of_grown hown2 h2)
    refine K v' w' ⟨vs ++ [.slice A1 zs.length c1], by rw [List.length_append]; exact h1, ?_⟩ ?_ hk h4 h2
    · exact ((hin.keepI (KeepI.of_below hb0)).keepI hk).push ((hu.low hbase).keepI hk) (hin.away_new hu.since (Nat.le_refl _))
    · exact ((Below.refl base wr).alloc (Nat.le_trans hbase hb0.size) _).grown h2 (by simp; have := hb0.size; omega) (fun k hk => (hown.lt k hk).1)
end Go.Proofs.YtoiipedomgefaaaDoor


/-
  slices.AppendSeq, slices.Collect over the iterator of impl.occurrences; impl.OccurrencesOf, impl.CountPattern.
-/

namespace Go.Proofs.YtoiipedomgefaaaDoor
set_option maxRecDepth 100000
open Go.RowKit Go.Shelf
attribute [local go_sem] Oper.semAt_some

theorem chR_room_all : ∀ n, n < 9 → ∀ k, k < 9 → (chR n k).length ≤ 256 := by decide +kernel
theorem chR_room {n k : Nat} (hn : n ≤ 8) (hk : k ≤ 8) : (chR n k).length ≤ 256 := chR_room_all n (by omega) k (by omega)
theorem intsS_stored {W : World} {D b : Nat} {v : Value} {zss : List (List Int)} (h : IntsS W D v zss) (hb : b < D) (x : Value) : IntsS (W.setCell ⟨b, 0, none⟩ x) D v zss := h.but (But.setCell W (Nat.le_refl b) (Nat.lt_succ_self b) x) hb
end Go.Proofs.YtoiipedomgefaaaDoor


/-
  impl.HasPattern: a loop over the occurrences that ends at the first one.
-/

namespace Go.Proofs.YtoiipedomgefaaaDoor
set_option maxRecDepth 100000
open Go.RowKit Go.Shelf
attribute [local go_sem] Oper.semAt_some

set_option maxRecDepth 100000 in
set_option maxHeartbeats 4000000 in
theorem has_yes (A A' : Option Addr) (n c B n' c' B' : Nat) (p q : List Int) (w : World) (h : Arg w B A n c p) (h' : Arg w B' A' n' c' q) (hp : isP p = true) (hq : isP q = true) :
    Calls Tryd.prog 89 #[.slice A n c, .slice A' n' c'] w (GivesB w (decide (0 < (occR p q).length))) := by
  have hn8 : n ≤ 8 := by have := isP_le hp; have := h.len; omega
  have hn8' : n' ≤ 8 := by have := isP_le hq; have := h'.len; omega
  have hBu := h.under
  have hBu' := h'.under
  -- the world behind the result's cell
  have hb0 : Below w.heap.size w (w.alloc (.cells #[.bool false] 4)) := (Below.refl _ w).alloc (Nat.le_refl _) _
  have hc0 : Boxed (w.alloc (.cells #[.bool false] 4)) w.heap.size 4 (.bool false) := Boxed.new w _ _
  have H1 := hide (iisperm_any A n c B p true hp _ (h.below hb0).reads (h.below hb0).under h.le h.small)
  have H2 := hide (show ∀ w1, Below w.heap.size w w1 → _ from fun w1 d1 => iisperm_any A' n' c' B' q true hq w1 (h'.below d1).reads (h'.below d1).under h'.le h'.small)
  have H4 := hide (fun w2 => iocs_made A A' n c n' c' w2)
  obtain ⟨b, hb⟩ : ∃ b, b = w.heap.size := ⟨_, rfl⟩
  have HT := hide (show ∀ w2, Below w.heap.size w w2 → b < w2.heap.size → TellsZ Fence.wide 3 Tryd.prog 115 #[.pointer (some ⟨w2.heap.size, 0, none⟩), .pointer (some ⟨w2.heap.size + 1, 0, none⟩)] 6 (fun x : Value × List Int => #[x.1]) (KnO p q)
      (Keep (fun k => k < w2.heap.size + 10 ∧ k ≠ b ∧ k ≠ w2.heap.size + 2 ∧ k ≠ w2.heap.size + 3)) (fun xs => xs.map (·.2) = occR p q) (AllIn p q) 256 ((w2.alloc (.cells #[.slice A n c] 31)).alloc (.cells #[.slice A' n' c'] 31)) from fun w2 d2 hlt => by
    have d3 : Below w2.heap.size w2 ((w2.alloc (.cells #[.slice A n c] 31)).alloc (.cells #[.slice A' n' c'] 31)) := ((Below.refl _ w2).alloc (Nat.le_refl _) _).alloc (by simp) _
    have b2 := Boxed.new (w2.alloc (.cells #[.slice A n c] 31)) 31 (.slice A' n' c')
    rw [World.size_alloc] at b2
    have hw := d2.size
    exact occ_tell A A' n c B n' c' B' p q hp hq _ w2.heap.size (w2.heap.size + 1) 256 _ (h.below (below_after d2 d3)) (h'.below (below_after d2 d3)) (Boxed.alloc (Boxed.new w2 _ _) _) b2
      ⟨fun k hk => by omega, fun k hk => by omega, by omega, by omega, fun k h1 h2 => by simp at h1 h2; omega⟩ 3 (chR_room hn8 hn8'))
  refine (callsIn_wide (n := 4)).1 ?_
  refine callsIn_of_wp_marks Tryd.func89 rfl trivial ?_ rfl
  simp only [Tryd.ntmps89, List.size_toArray, List.length_cons, List.length_nil, Nat.reduceAdd, Nat.reduceSub, Array.replicate_succ, Array.replicate_zero, List.push_toArray, List.append_toArray, List.nil_append, List.cons_append]
  clear h h' hp hq hBu hBu'
  have HB := hide hb
  clear hb
  gi_wp2_with fail
  refine ⟨trivial, ?_⟩
  refine (callsIn_wide.2 (unhide H1)).mono ?_
  rintro e w1 ⟨rfl, d1⟩
  have d1' := below_after hb0 d1
  have H3 := hide (unhide H2 w1 d1')
  clear H1 H2
  gi_wp2_with fail
  refine ⟨trivial, ?_⟩
  refine (callsIn_wide.2 (unhide H3)).mono ?_
  rintro e w2 ⟨rfl, d2⟩
  have d := below_after d1' d2
  have hc2 : Boxed w2 b 4 (.bool false) := by rw [unhide HB]; exact boxed_later (boxed_later hc0 d1) d2
  clear H3 d1 d2 d1' hc0 hb0
  gi_wp2_with fail
  refine ⟨trivial, ?_⟩
  refine (callsIn_wide.2 (unhide H4 _)).mono ?_
  rintro e w3 ⟨rfl, hw3⟩
  have hblt := hc2.lt
  have hseq := unhide HT w2 d hblt
  have hs3 : w3.heap.size = w2.heap.size + 2 := by rw [hw3]; simp
  have hc3 : Boxed w3 b 4 (.bool false) := by rw [hw3]; exact Boxed.alloc (Boxed.alloc hc2 _) _
  have d3 : Below w.heap.size w w3 := below_after d (by rw [hw3]; exact ((Below.refl _ w2).alloc (Nat.le_refl _) _).alloc (by simp) _)
  have hbw : w.heap.size ≤ b := Nat.le_of_eq (unhide HB).symm
  rw [← hw3] at hseq
  rw [← unhide HB]
  clear H4 HT hw3 hc2
  gi_wp2
  refine range_zone rfl (by decide) (gf := 115) (lb := #[.pointer (some ⟨w2.heap.size, 0, none⟩), .pointer (some ⟨w2.heap.size + 1, 0, none⟩)]) rfl trivial (enters_of Tryd.func115 (by kernel_rfl) rfl)
    hseq (fun h k => h.trans k) (fun W r r' hd => Keep.putObj W (by omega) _) (fun _ => rfl) (fun U V x r r' hdU hdV h => ⟨kn_row _ U V x r r' hdU hdV h.1, h.2⟩)
    (fun pre V => pre = [] ∧ Boxed V b 4 (.bool false) ∧ Below w.heap.size w V ∧ w3.heap.size ≤ V.heap.size)
    (fun c pre V => c = .ret ∧ 0 < (occR p q).length ∧ Boxed V b 4 (.bool true) ∧ Below w.heap.size w V ∧ w3.heap.size ≤ V.heap.size)
    (fun pre U V h hb' => ⟨h.1, Boxed.but h.2.1 hb' (by omega), h.2.2.1.trans (hb'.below (by have := d3.size; omega) (by have := d3.size; have := h.2.2.2; omega)), Nat.le_trans h.2.2.2 hb'.size⟩)
    (fun c pre U V h hb' => ⟨h.1, h.2.1, Boxed.but h.2.2.1 hb' (by omega), h.2.2.2.1.trans (hb'.below (by have := d3.size; omega) (by have := d3.size; have := h.2.2.2.2; omega)), Nat.le_trans h.2.2.2.2 hb'.size⟩)
    ⟨rfl, hc3, d3, Nat.le_refl _⟩
    (fun x => { tmps := #[.slice A n c, .slice A' n' c', undef, undef, .pointer (some ⟨b, 0, none⟩), .slice A n c, .bool true, .bool false, .bool false, .slice A' n' c', .bool true, .bool false, .bool false, .slice A n c, .slice A' n' c',
      .func (.func 115) #[] #[.pointer (some ⟨w2.heap.size, 0, none⟩), .pointer (some ⟨w2.heap.size + 1, 0, none⟩)], x.1], defers := [] }) ?assign ?body ?done ?stop
  case assign =>
    intro l x W K hK
    gi_wp2
    simp only [← Array.foldl_toList, Array.toList_zip, List.zip_cons_cons, List.zip_nil_left, List.foldl_cons, List.foldl_nil]
    exact hK
  case body =>
    rintro l pre ⟨u, zs⟩ U W ⟨rfl, hcU, hBU, hsU⟩ hzU hbU ⟨_, hin⟩ hlen
    have hc := boxed_later hcU hbU
    have hcell := hc.cell
    have hfz := hc.frozen
    have hg := grownBy_setCell' W b (.bool true)
    have hlen0 : 0 < (occR p q).length := List.length_pos_of_mem hin
    have hend : (∀ r, Desk w3.heap.size r W → Desk w3.heap.size r (W.setCell ⟨b, 0, none⟩ (.bool true))) ∧ Keep (fun k => k < w2.heap.size + 10 ∧ k ≠ b ∧ k ≠ w2.heap.size + 2 ∧ k ≠ w2.heap.size + 3) W (W.setCell ⟨b, 0, none⟩ (.bool true)) ∧ Code.ret = .ret ∧ 0 < (occR p q).length ∧ Boxed (W.setCell ⟨b, 0, none⟩ (.bool true)) b 4 (.bool true) ∧ Below w.heap.size w (W.setCell ⟨b, 0, none⟩ (.bool true)) ∧ w3.heap.size ≤ (W.setCell ⟨b, 0, none⟩ (.bool true)).heap.size :=
      ⟨fun r hd => ⟨(hg.block _ hd.lt (by simp; omega)).trans hd.rec_, (hg.block _ (by have := hd.lt; omega) (by simp; omega)).trans hd.marks⟩, Keep.setCell W (by omega) _, rfl, hlen0, Boxed.set _ hc, (hBU.trans (hbU.mono (by omega))).setCell (p := ⟨b, 0, none⟩) hbw _, by have := hg.size; have := hbU.size; omega⟩
    have HEND := hide hend
    clear hc hcU hBU hin hlen hlen0 hg hend hs3
    gi_wp2
    have H := unhide HEND
    exact ⟨H.1, H.2.1, rfl, H.2.2.2⟩
  case done =>
    rintro ys W hS ⟨rfl, hc, hB, hs⟩ hK
    have h0 : decide (0 < (occR p q).length) = false := by rw [← hS]; rfl
    have hcell := hc.cell
    have hfz := hc.frozen
    have hB2 : Below w.heap.size w ((W.setCell ⟨b, 0, none⟩ (.bool false)).putObj w3.heap.size (.deferred none)) := (hB.setCell (p := ⟨b, 0, none⟩) hbw _).trans ((Below.refl _ _).grown (grownBy_putObj' _ _ _) (by have := d3.size; have := (grownBy_setCell' W b (.bool false)).size; omega) (fun k e => by cases e; exact d3.size))
    have H0 := hide h0
    clear d3 h0 hs3
    gi_wp2
    have hK' := (KeepsOthers.setCell W ⟨b, 0, none⟩ (.bool false)).same w3.heap.size _ hK rfl
    refine ⟨by simp, .inl ⟨_, _, rfl, run_takeDeferred hK', ?_⟩⟩
    have hc5 := cell_kept (World.cell?_setCell_same' W ⟨b, 0, none⟩ (.bool false) (by rw [hcell]; rfl)) (grownBy_putObj' _ w3.heap.size (.deferred none)) (fun r e => by cases e; exact ⟨_, hK', rfl⟩)
    refine ⟨.bool false, ?_, by rw [unhide H0], hB2⟩
    simp [results, Tryd.f89, go_sem, hc5]
  case stop =>
    rintro c pre W _ ⟨rfl, hl0, hc, hB, hs⟩ hK
    have h0 : decide (0 < (occR p q).length) = true := decide_eq_true hl0
    have hcell := hc.cell
    have hB2 : Below w.heap.size w (W.putObj w3.heap.size (.deferred none)) := hB.trans ((Below.refl _ _).grown (grownBy_putObj' _ _ _) (by have := d3.size; omega) (fun k e => by cases e; exact d3.size))
    have H0 := hide h0
    clear d3 h0 hs3
    gi_wp2
    refine ⟨by simp, .inl ⟨_, _, rfl, run_takeDeferred hK, ?_⟩⟩
    have hc5 := cell_kept hcell (grownBy_putObj' _ w3.heap.size (.deferred none)) (fun r e => by cases e; exact ⟨_, hK, rfl⟩)
    refine ⟨.bool true, ?_, by rw [unhide H0], hB2⟩
    simp [results, Tryd.f89, go_sem, hc5]
set_option maxHeartbeats 800000 in
theorem ihas_any (A A' : Option Addr) (n c B n' c' B' : Nat) (p q : List Int) (w : World) (h : Arg w B A n c p) (h' : Arg w B' A' n' c' q) :
    Calls Tryd.prog 89 #[.slice A n c, .slice A' n' c'] w (GivesB w (hasR p q)) := by
  obtain ⟨bp, hp⟩ : ∃ b, isP p = b := ⟨_, rfl⟩
  obtain ⟨bq, hq⟩ : ∃ b, isP q = b := ⟨_, rfl⟩
  have hb0 : Below w.heap.size w (w.alloc (.cells #[.bool false] 4)) := (Below.refl _ w).alloc (Nat.le_refl _) _
  have hc0 : Boxed (w.alloc (.cells #[.bool false] 4)) w.heap.size 4 (.bool false) := Boxed.new w _ _
  cases bp with
  | false =>
    have H1 := hide (iisperm_any A n c B p false hp _ (h.below hb0).reads (h.below hb0).under h.le h.small)
    rw [show hasR p q = false from by unfold hasR numOcc; rw [hp]; rfl]
    clear h h' hp hq
    go_enter Tryd.func89, Tryd.ntmps89
    go_wp2_with fail
    refine (unhide H1).mono ?_
    rintro e w1 ⟨rfl, d1⟩
    have hc := boxed_later hc0 d1
    have hcell := hc.cell
    have hfz := hc.frozen
    have hB2 := (below_after hb0 d1).setCell (p := ⟨w.heap.size, 0, none⟩) (Nat.le_refl _) (.bool false)
    have hc5 := World.cell?_setCell_same' w1 ⟨w.heap.size, 0, none⟩ (.bool false) (by rw [hcell]; rfl)
    clear H1 d1 hb0 hc0 hc
    go_wp2
    refine bodyPost_ret (v := .bool false) ?_ rfl ⟨rfl, hB2⟩
    simp [results, Tryd.f89, go_sem, hc5]
  | true =>
    cases bq with
    | false =>
      have H1 := hide (iisperm_any A n c B p true hp _ (h.below hb0).reads (h.below hb0).under h.le h.small)
      have H2 := hide (show ∀ w1, Below w.heap.size w w1 → _ from fun w1 d1 => iisperm_any A' n' c' B' q false hq w1 (h'.below d1).reads (h'.below d1).under h'.le h'.small)
      rw [show hasR p q = false from by unfold hasR numOcc; rw [hp, hq]; rfl]
      clear h h' hp hq
      go_enter Tryd.func89, Tryd.ntmps89
      go_wp2_with fail
      refine (unhide H1).mono ?_
      rintro e w1 ⟨rfl, d1⟩
      have H3 := hide (unhide H2 w1 (below_after hb0 d1))
      clear H1 H2
      go_wp2_with fail
      refine (unhide H3).mono ?_
      rintro e w2 ⟨rfl, d2⟩
      have hc := boxed_later (boxed_later hc0 d1) d2
      have hcell := hc.cell
      have hfz := hc.frozen
      have hB2 := (below_after (below_after hb0 d1) d2).setCell (p := ⟨w.heap.size, 0, none⟩) (Nat.le_refl _) (.bool false)
      have hc5 := World.cell?_setCell_same' w2 ⟨w.heap.size, 0, none⟩ (.bool false) (by rw [hcell]; rfl)
      clear H3 d1 d2 hb0 hc0 hc
      go_wp2
      refine bodyPost_ret (v := .bool false) ?_ rfl ⟨rfl, hB2⟩
      simp [results, Tryd.f89, go_sem, hc5]
    | true =>
      have := has_yes A A' n c B n' c' B' p q w h h' hp hq
      rw [show hasR p q = decide (0 < (occR p q).length) from by unfold hasR numOcc; rw [hp, hq]; simp only [Bool.and_self, if_true, decide_eq_decide]; omega]
      exact this
end Go.Proofs.YtoiipedomgefaaaDoor


/-
  impl.permsUpTo, impl.isNoPerm, impl.hasSome, by their contracts.
-/

namespace Go.Proofs.YtoiipedomgefaaaDoor
set_option maxRecDepth 100000
open Go.RowKit

set_option maxHeartbeats 800000 in
theorem inop_any (A : Option Addr) (n c B : Nat) (z : List Int) (w : World) (h : Arg w B A n c z) :
    Calls Tryd.prog 64 #[.slice A n c] w (GivesB w (!isP z)) := by
  obtain ⟨b, hb⟩ : ∃ b, isP z = b := ⟨_, rfl⟩
  have H1 := hide (iisperm_any A n c B z b hb w h.reads h.under h.le h.small)
  rw [hb]
  clear h hb
  go_enter Tryd.func64, Tryd.ntmps64
  go_wp2_with fail
  refine (unhide H1).mono ?_
  rintro e w1 ⟨rfl, d1⟩
  clear H1
  cases b with
  | false =>
    go_wp2
    go_ret
    exact ⟨rfl, d1⟩
  | true =>
    go_wp2
    go_ret
    exact ⟨rfl, d1⟩
set_option maxHeartbeats 800000 in
theorem imb1_any (A : Option Addr) (n c B : Nat) (z : List Int) (w : World) (h : Arg w B A n c z) :
    Calls Tryd.prog 63 #[.slice A n c] w (GivesB w (badB z)) := by
  have hl := h.len
  have H1 := hide (inop_any A n c B z w h)
  obtain ⟨b, hb⟩ : ∃ b, isP z = b := ⟨_, rfl⟩
  rw [hb] at H1
  have HR := hide (show badB z = (!b || decide (n = 0)) by unfold badB; rw [hb, hl])
  rw [unhide HR]
  clear h hb hl
  cases b with
  | false =>
    go_enter Tryd.func63, Tryd.ntmps63
    go_wp2_with fail
    refine (unhide H1).mono ?_
    rintro e w1 ⟨rfl, d1⟩
    clear H1
    go_wp2
    go_ret
    exact ⟨rfl, d1⟩
  | true =>
    by_cases h0 : n = 0
    · have HE := hide (show (!true || decide (n = 0)) = true by rw [decide_eq_true h0]; rfl)
      rw [unhide HE]
      subst h0
      go_enter Tryd.func63, Tryd.ntmps63
      go_wp2_with fail
      refine (unhide H1).mono ?_
      rintro e w1 ⟨rfl, d1⟩
      clear H1
      go_wp2
      go_ret
      exact ⟨rfl, d1⟩
    · have HE := hide (show (!true || decide (n = 0)) = false by rw [decide_eq_false h0]; rfl)
      rw [unhide HE]
      have hn0 : ((n : Int) == 0) = false := by rw [beq_eq_false_iff_ne]; omega
      go_enter Tryd.func63, Tryd.ntmps63
      go_wp2_with fail
      refine (unhide H1).mono ?_
      rintro e w1 ⟨rfl, d1⟩
      clear H1
      go_wp2
      go_ret
      exact ⟨rfl, d1⟩
set_option maxHeartbeats 800000 in
theorem ihs1_any (A A' : Option Addr) (n c B n' c' B' bx : Nat) (z p : List Int) (w : World) (h : Arg w B A n c z) (h' : Arg w B' A' n' c' p) (hz : isP z = true) (hp : isP p = true) (hx : w.cell? ⟨bx, 0, none⟩ = some (.slice A' n' c')) :
    Calls Tryd.prog 88 #[.slice A n c, .pointer (some ⟨bx, 0, none⟩)] w (GivesB w (hasO p z)) := by
  have H1 := hide (has_yes A' A n' c' B' n c B p z w h' h hp hz)
  rw [← hasO_occ hp hz] at H1
  clear h h' hz hp
  go_enter Tryd.func88, Tryd.ntmps88
  go_wp2_with fail
  refine (unhide H1).mono ?_
  rintro e w1 ⟨rfl, d1⟩
  clear H1 hx
  go_wp2
  go_ret
  exact ⟨rfl, d1⟩
theorem any_avo (L : List (List Int)) (p : List Int) : L.any (hasO p) = !avo L p := by
  unfold avo
  rw [List.not_all_eq_any_not]
  congr 1
  funext q
  rw [Bool.not_not]
set_option maxHeartbeats 800000 in
theorem ihs_any (A A' : Option Addr) (n c B n' c' B' : Nat) (p : List Int) (zss : List (List Int)) (w : World) (h : Arg w B A n c p) (hS : IntsS w B' (.slice A' n' c') zss) (hp : isP p = true) (hz : ∀ z ∈ zss, isP z = true) (hn : n' ≤ 1048576) :
    Calls Tryd.prog 65 #[.slice A n c, .slice A' n' c'] w (GivesB w (!avo zss p)) := by
  have hb0 : Below w.heap.size w (w.alloc (.cells #[.slice A n c] 31)) := (Below.refl _ w).alloc (Nat.le_refl _) _
  have hc0 : Boxed (w.alloc (.cells #[.slice A n c] 31)) w.heap.size 31 (.slice A n c) := Boxed.new w _ _
  have H1 := hide (conHS_any w.heap.size A' n' c' B' zss (hasO p) (w.alloc (.cells #[.slice A n c] 31)) (hS.below hb0) hn (hide fun w1 d A1 c1 z hzm hI =>
    ihs1_any A1 A z.length c1 _ n c B w.heap.size z p w1 (hI.argP (hz z hzm)) (h.below (below_after hb0 d)) (hz z hzm) hp (Boxed.cell (boxed_later hc0 d))))
  rw [any_avo] at H1
  clear h hS hz hp
  go_enter Tryd.func65, Tryd.ntmps65
  go_wp2_with fail
  refine (unhide H1).mono ?_
  rintro e w1 ⟨rfl, d1⟩
  have d := below_after hb0 d1
  clear H1 d1 hb0 hc0
  go_wp2
  go_ret
  exact ⟨rfl, d⟩
end Go.Proofs.YtoiipedomgefaaaDoor


/-
  impl.OrderPerms, impl.SymmetryClass and impl.LeastSymmetry, by their contracts.
-/

namespace Go.Proofs.YtoiipedomgefaaaDoor
set_option maxRecDepth 100000
open Go.RowKit

/-- What is in order and has each once is known by what it has. -/
theorem kept_ord {zss : List (List Int)} {xs ys : List Pr} (hall : allP zss = true) (hx : xs.map (·.2) = zss) (hp : ys.Perm xs) (hs : ∀ (i j : Nat) (x y : Pr), i < j → ys[i]? = some x → ys[j]? = some y → befL y.2 x.2 = false) :
    (keepN (·.2) ys ys.length).map (·.2) = ordR zss := by
  obtain ⟨h1, h2⟩ := keepN_sorted (f := fun q : Pr => q.2) hs ys.length (Nat.le_refl _)
  rw [ordR_yes hall]
  refine asc_unique h1 (ordL_asc _ _) fun z => ?_
  rw [h2 z, ordL_mem, List.take_length, List.take_length, ← hx]
  exact (hp.map _).mem_iff

set_option maxHeartbeats 1600000 in
theorem iord_any (A : Option Addr) (n c B : Nat) (zss : List (List Int)) (w : World) (hS : IntsS w B (.slice A n c) zss) (hn : n ≤ 1048576) (hsm : ∀ z ∈ zss, z.length ≤ 1048576 ∧ Small z) :
    Calls Tryd.prog 46 #[.slice A n c] w (GivesSS w (ordR zss)) := by
  obtain ⟨i0, hi, hz0, hz1, hz2⟩ := info_parts rowsInfo1
  have hl := hS.len
  have HL := hide hl
  have HSM := hide hsm
  clear hl hsm
  go_enter Tryd.func46, Tryd.ntmps46
  go_wp2_with (first
    | (at_make; refine wpList_make_full _ rfl (.tmp 7) (.tmp 7) 22 rfl w.heap.size 31 i0 (.slice none 0 0) 1 Tryd.underlying22 hi hz0 hz1 _ _ _ _ n rfl rfl (by first | rfl | omega) (by first | rfl | omega) (by rw [hz2]; omega) (by unfold maxLen; omega) (Nat.le_refl _) ?_; intro w1 hown hg))
  have hF := Filled.start (zss := zss) (unhide HL) (Below.refl w.heap.size w) hown hg
  clear hown hg
  obtain ⟨g, hgw⟩ : ∃ g, g = w.heap.size := ⟨_, rfl⟩
  rw [← hgw] at hF ⊢
  clear hgw
  go_loopw [4, 5, 11] (fun _ _ i wr => ∃ k : Nat, k ≤ n ∧ i = .int .i64 k ∧ Filled w wr g n zss k ∧ Hid (∀ z ∈ zss.take k, isP z = true)) (fun _ _ i _ => n - (intOf i).toNat)
  case atStart => exact ⟨0, Nat.zero_le _, rfl, hF, fun z hz => by simp at hz⟩
  case round =>
    obtain ⟨k, hk, rfl, hF, hP⟩ := hrel
    by_cases hlt : k < n
    · obtain ⟨ad, A1, c1, z, rfl, hz, hcell, hI⟩ := (hS.below hF.below).at_ hlt
      obtain ⟨hzl, hzs⟩ := unhide HSM z (List.mem_of_getElem? hz)
      have hA := hI.arg hzl hI.cap hzs
      obtain ⟨b, hb⟩ : ∃ b, isP z = b := ⟨_, rfl⟩
      have H1 := hide (iisperm_any A1 z.length c1 wr.heap.size z b hb wr hA.reads hA.under hA.le hA.small)
      cases b with
      | false =>
        have hr := hide (ordR_no (allP_no (List.mem_of_getElem? hz) hb))
        have hb0 := hF.below
        clear hz hb hI hA hF hP hzs
        go_wp2_with fail
        refine (unhide H1).mono ?_
        rintro e w2 ⟨rfl, hb⟩
        have hb2 := below_after hb0 hb
        clear H1 hb hb0
        go_wp2
        go_ret
        rw [unhide hr]
        exact GivesSS.mk (IntsS.nil _ _) hb2
      | true =>
        have H2 := hide (fun w' (hb' : Below wr.heap.size wr w') => clone_any A1 z.length c1 wr.heap.size z w' (hA.below hb'))
        have HF := hide hF
        have HZ := hide hz
        have hnext : Hid (∀ z ∈ zss.take (k + 1), isP z = true) := hide (fun y hy => by
          rw [List.take_add_one, hz] at hy
          rcases List.mem_append.1 hy with h | h
          · exact unhide hP y h
          · simp at h
            subst h
            exact hb)
        clear hz hb hI hA hF hP hzs
        go_wp2_with fail
        refine (unhide H1).mono ?_
        rintro e w2 ⟨rfl, hb⟩
        have H3 := hide (unhide H2 w2 hb)
        clear H1 H2
        go_wp2_with fail
        refine (unhide H3).mono ?_
        rintro e w3 ⟨A3, c3, rfl, o3, d3⟩
        have hb3 := below_after hb d3
        obtain ⟨⟨old, hold⟩, hfz⟩ := (unhide HF).old hb3 hlt
        have hF2 := (unhide HF).put (unhide HZ) hb3 (o3.low hb.size)
        clear H3 hb d3 hb3 o3 HF HZ
        go_wp2
        go_roundw
        case rel => exact ⟨k + 1, by omega, by go_num, hF2, hnext⟩
        case measure => simp [intOf]; omega
    · obtain rfl : n = k := by omega
      have hall : allP zss = true := allP_yes fun z hz => unhide hP z (by rw [List.take_of_length_le (by rw [unhide HL]; exact Nat.le_refl _)]; exact hz)
      obtain ⟨hbw, vs, hown, hin⟩ := hF
      rw [← unhide HL, fillS_all] at hin
      obtain ⟨xs, hx1, hx2, hx⟩ := hin.prs
      rw [← hx1] at hown
      have hxP : ∀ q ∈ xs, isP q.2 = true := fun q hq => allP_at hall (by rw [← hx2]; exact List.mem_map_of_mem hq)
      have H1 := hide (sort_any wr w.heap.size g n n xs hown hx hxP hn)
      have HALL := hide hall
      have HX2 := hide hx2
      have HX := hide hx
      have HXP := hide hxP
      have HOWN := hide hown
      clear hP hall hin hx hxP hx1 hx2 hown
      go_wp2_with fail
      refine (unhide H1).mono ?_
      rintro e w2 ⟨rfl, ys, hperm, hsort, hown2, hg2⟩
      have hk2 := KeepI.of_grown (v := .slice (some ⟨g, 0, none⟩) n n) (unhide HOWN) hg2
      have hy : RowPrs w2 w.heap.size ys := ((unhide HX).perm hperm).keepI hk2
      have hyP : ∀ q ∈ ys, isP q.2 = true := fun q hq => unhide HXP q (hperm.subset hq)
      have hbg := ((unhide HOWN).lt g rfl).1
      have hb2 := hbw.grown hg2 hbw.size (fun q hq => by injection hq with hq; omega)
      have H2 := hide (compact_any w2 w.heap.size g n n ys hown2 hy hyP hn (Nat.le_refl _))
      have HORD := hide (kept_ord (unhide HALL) (unhide HX2) hperm hsort)
      have HY := hide hy
      have HOWN2 := hide hown2
      clear H1 hperm hsort hown2 hg2 hk2 hy hyP hbw
      go_wp2_with fail
      refine (unhide H2).mono ?_
      rintro e w3 ⟨rfl, hown3, hg3⟩
      have hk3 := KeepI.of_grown (v := .slice (some ⟨g, 0, none⟩) n n) (unhide HOWN2) hg3
      have hp3 := ((unhide HY).keepI hk3).sub ((keepN_sub (f := fun q : Pr => q.2) ys ys.length).trans (List.take_sublist _ _))
      have hb3 := hb2.grown hg3 hb2.size (fun q hq => by injection hq with hq; omega)
      have hlen : (ordR zss).length = (keepN (·.2) ys ys.length).length := by rw [← unhide HORD, List.length_map]
      have hfin : IntsS w3 w.heap.size (.slice (some ⟨g, 0, none⟩) (keepN (·.2) ys ys.length).length n) (ordR zss) := by
        refine ⟨(keepN (·.2) ys ys.length).map (·.1), by rw [hlen]; exact hown3, ?_⟩
        rw [← unhide HORD]
        exact hp3.inner
      clear H2 hown3 hg3 hk3 hp3 hlen
      go_wp2
      go_ret
      exact GivesSS.mk hfin hb3
end Go.Proofs.YtoiipedomgefaaaDoor


/-
  impl.MakeBasis, slices.EqualFunc over rows of rows, impl.IsBasis, impl.InClass, by their contracts.
-/

namespace Go.Proofs.YtoiipedomgefaaaDoor
set_option maxRecDepth 100000
open Go.RowKit

set_option maxHeartbeats 1600000 in
theorem imkb_any (A : Option Addr) (n c B : Nat) (zss : List (List Int)) (w : World) (hS : IntsS w B (.slice A n c) zss) (hn : n ≤ 1048576) (hsm : ∀ z ∈ zss, z.length ≤ 1048576 ∧ Small z) :
    Calls Tryd.prog 36 #[.slice A n c] w (GivesSSB w (mkR zss) (mkOK zss)) := by
  have H1 := hide (conMB_any A n c B zss badB w hS hn (hide fun w1 d A1 c1 z hz hI => imb1_any A1 z.length c1 _ z w1 (hI.arg (hsm z hz).1 hI.cap (hsm z hz).2)))
  obtain ⟨b, hb⟩ : ∃ b, zss.any badB = b := ⟨_, rfl⟩
  rw [hb] at H1
  cases b with
  | true =>
    have hno := mkOK_bad hb
    rw [mkR_no hno, hno]
    clear hS hsm hb hno
    go_enter Tryd.func36, Tryd.ntmps36
    go_wp2_with fail
    refine (unhide H1).mono ?_
    rintro e w1 ⟨rfl, d1⟩
    have hI := IntsS.nil w1 w.heap.size
    clear H1
    go_wp2
    go_ret2
    exact GivesSSB.mk false hI d1
  | false =>
    have H2 := hide (fun (w' : World) (d : Below w.heap.size w w') => iord_any A n c B zss w' (hS.below d) hn hsm)
    have HNO := hide (fun (k : Nat) (hk : k ≤ (ordR zss).length) (h : 8 < (mkK (ordR zss) k).length) => mkOK_many hk h)
    have HYES := hide (fun (h : (mkK (ordR zss) (ordR zss).length).length ≤ 8) => (⟨mkOK_good hb h, mkR_yes (mkOK_good hb h)⟩ : mkOK zss = true ∧ mkR zss = mkO zss))
    have HDEF := hide (show mkO zss = mkK (ordR zss) (ordR zss).length from rfl)
    have HPP := hide (fun (j : Nat) (z : List Int) (hz : (ordR zss)[j]? = some z) => ordR_mem (List.mem_of_getElem? hz))
    have HPM := hide (fun (k : Nat) (hk : k ≤ (ordR zss).length) (x : List Int) (hx : x ∈ mkK (ordR zss) k) => ordR_mem (mkK_mem k hk x hx))
    obtain ⟨Z, hZ⟩ : ∃ Z, Z = ordR zss := ⟨_, rfl⟩
    rw [← hZ] at H2 HNO HYES HDEF HPP HPM
    obtain ⟨N, hN⟩ : ∃ N, N = Z.length := ⟨_, rfl⟩
    have hN1 : N ≤ 1048576 := by rw [hN, hZ]; have h1 := ordR_len zss; have h2 := hS.len; omega
    have HN := hide hN
    clear hS hsm hb hZ hN
    go_enter Tryd.func36, Tryd.ntmps36
    go_wp2_with fail
    refine (unhide H1).mono ?_
    rintro e w1 ⟨rfl, d1⟩
    have hst := ownS0 w1 w.heap.size d1.size
    have hbel := d1.alloc d1.size (.cells #[] 31)
    have H3 := hide (unhide H2 _ hbel)
    clear H1 H2 d1
    go_wp2_with fail
    refine (unhide H3).mono ?_
    rintro e w3 ⟨A3, c3, rfl, o3, d3⟩
    have hb3 := below_after hbel d3
    obtain ⟨vs, us0, hsib⟩ := Sib.start hst d3 o3 hbel.size
    obtain ⟨C, hC⟩ : ∃ C, C = (w1.alloc (.cells #[] 31)).heap.size := ⟨_, rfl⟩
    rw [← hC] at hsib
    rw [← unhide HN] at hsib ⊢
    clear hC H3 hst o3 d3 hbel
    go_wp2
    go_loopw [4, 6, 13] (fun ov _ i wr => ∃ (j : Nat) (us : List Value), j ≤ N ∧ i = .int .i64 j ∧ Below w.heap.size w wr ∧ Sib wr w.heap.size C (.slice A3 N c3) vs Z ov us (mkK Z j) j ∧ Hid ((mkK Z j).length ≤ 8)) (fun _ _ i _ => N - (intOf i).toNat)
    case atStart => exact ⟨0, us0, Nat.zero_le _, rfl, hb3, hsib, by exact (by simp [mkK] : (mkK Z 0).length ≤ 8)⟩
    case round =>
      obtain ⟨j, us, hj, rfl, hb, hs, h8⟩ := hrel
      clear hsib hb3
      by_cases hlt : j < N
      · obtain ⟨ad, A6, c6, z, rfl, hz, hvz, hcell, hI⟩ := hs.row rfl hlt
        have hzp := unhide HPP j z hz
        have hso := hs.outS
        obtain ⟨Ao, co, hov⟩ := hso.slice
        subst hov
        have h8' : (mkK Z j).length ≤ 8 := h8
        have H4 := hide (ihs_any A6 Ao z.length c6 _ _ co _ z (mkK Z j) wr (hI.argP hzp) hso hzp (unhide HPM j (by rw [← unhide HN]; omega)) (by omega))
        obtain ⟨b, hbb⟩ : ∃ b, avo (mkK Z j) z = b := ⟨_, rfl⟩
        rw [hbb] at H4
        have HZ := hide (⟨hz, hvz⟩ : _ ∧ _)
        have HS := hide hs
        have HB := hide hb
        have hcl := World.block_lt_of_cell? wr _ hcell
        obtain ⟨lz, hlz⟩ : ∃ l, l = z.length := ⟨_, rfl⟩
        obtain ⟨U, hU⟩ : ∃ U, U = mkK Z j := ⟨_, rfl⟩
        rw [← hU] at h8' H4 HS
        obtain ⟨nu, hnu⟩ : ∃ l, l = U.length := ⟨_, rfl⟩
        rw [← hnu] at h8' H4 HS
        have HNU := hide hnu
        have HU := hide hU
        rw [← hlz] at hcell H4 HZ
        rw [← hU, ← hnu]
        clear hz hvz hzp hI hs hb hso hlz hU hnu h8
        cases b with
        | false =>
          have HE := hide (mkK_no (unhide HZ).1 hbb)
          clear hbb
          go_wp2_with fail
          refine (unhide H4).mono ?_
          rintro e w4 ⟨rfl, d4⟩
          have hb4 := below_after (unhide HB) d4
          have hs4 := ((unhide HS).below d4).skip
          clear H4 HB HS d4 hcell hcl
          rw [unhide HU, ← unhide HE] at hs4
          have H8 := hide (show (mkK Z (j + 1)).length ≤ 8 by rw [unhide HE, ← unhide HU, ← unhide HNU]; exact h8')
          have HS4 := hide hs4
          clear hs4
          go_wp2
          go_roundw
          case rel => exact ⟨j + 1, us, by omega, by go_num, hb4, unhide HS4, H8⟩
          case measure => simp [intOf]; omega
        | true =>
          have HE := hide (mkK_yes (unhide HZ).1 hbb)
          clear hbb
          go_wp2_with fail
          refine (unhide H4).mono ?_
          rintro e w4 ⟨rfl, d4⟩
          have hb4 := below_after (unhide HB) d4
          have hs4 := (unhide HS).below d4
          have hcell4 := (d4.cell hcl).trans hcell
          clear H4 HB HS d4 hcell hcl
          by_cases e8 : nu = 8
          · have hno := hide (unhide HNO (j + 1) (by rw [← unhide HN]; omega) (by rw [unhide HE, List.length_append, ← unhide HU, ← unhide HNU, e8]; simp))
            have hI := IntsS.nil w4 w.heap.size
            have e8' : ((nu : Int) == 8) = true := by rw [e8]; rfl
            clear hs4 hcell4 e8
            go_wp2
            go_ret2
            rw [mkR_no (unhide hno), unhide hno]
            exact GivesSSB.mk false hI hb4
          · have e8' : ((nu : Int) == 8) = false := by rw [beq_eq_false_iff_ne]; omega
            have hul : U.length ≤ 1048576 := by rw [← unhide HNU]; omega
            have H8 := hide (show (mkK Z (j + 1)).length ≤ 8 by rw [unhide HE, List.length_append, ← unhide HU, ← unhide HNU, List.length_singleton]; omega)
            go_wp2_with (first
              | (at_builtin; refine wpList_sift rfl (.tmp 23) (.tmp 25) rfl w.heap.size C w w4 (.slice (some ad) N c3) _ (.slice A6 lz c6) vs us Z U j z rfl rfl rfl hs4 (unhide HZ).2 (unhide HZ).1 hul hb4 (Nat.le_refl _) ?_; intro v5 w5 hs5 hb5))
            rw [unhide HU, ← unhide HE] at hs5
            clear hs4 hb4 hcell4 hul
            go_roundw
            case rel => exact ⟨j + 1, _, by omega, by go_num, hb5, hs5, H8⟩
            case measure => simp [intOf]; omega
      · obtain rfl : N = j := by omega
        have h8' : (mkK Z Z.length).length ≤ 8 := by rw [← unhide HN]; exact h8
        obtain ⟨e1, e2⟩ := unhide HYES h8'
        have hI := hs.outS
        rw [show mkK Z N = mkR zss by rw [e2, unhide HDEF, ← unhide HN]] at hI
        have HI := hide hI
        have HOK := hide e1
        clear hs h8 h8' e1 e2 hI
        go_wp2
        go_ret2
        rw [unhide HOK]
        exact GivesSSB.mk true (unhide HI) hb
theorem rows_ne {X Y : List (List Int)} {k : Nat} {x y : List Int} (hx : X[k]? = some x) (hy : Y[k]? = some y) (h : x ≠ y) : decide (X = Y) = false := by
  rw [decide_eq_false_iff_not]
  rintro rfl
  rw [hx] at hy
  exact h (Option.some.inj hy)
set_option maxHeartbeats 1600000 in
theorem equalF_any (A A' : Option Addr) (n c B n' c' B' : Nat) (X Y : List (List Int)) (w : World) (hX : IntsS w B (.slice A n c) X) (hY : IntsS w B' (.slice A' n' c') Y) (hn : n ≤ 1048576) (hsx : ∀ z ∈ X, z.length ≤ 1048576 ∧ Small z) (hsy : ∀ z ∈ Y, z.length ≤ 1048576 ∧ Small z) :
    Calls Tryd.prog 87 #[.slice A n c, .slice A' n' c', .func (.func 78) #[] #[]] w (GivesB w (decide (X = Y))) := by
  have hlx := hX.len
  have hly := hY.len
  by_cases hnn : n = n'
  · subst hnn
    have HA := hide (⟨hX, hY, hsx, hsy⟩ : IntsS w B (.slice A n c) X ∧ IntsS w B' (.slice A' n c') Y ∧ (∀ z ∈ X, z.length ≤ 1048576 ∧ Small z) ∧ ∀ z ∈ Y, z.length ≤ 1048576 ∧ Small z)
    have HL := hide (⟨hlx, hly⟩ : X.length = n ∧ Y.length = n)
    have hb0 := Below.refl w.heap.size w
    clear hX hY hsx hsy hlx hly
    go_enter Tryd.func87, Tryd.ntmps87
    go_wp2
    go_loopw [7, 8, 9, 17] (fun _ _ _ i wr => ∃ k : Nat, k ≤ n ∧ i = .int .i64 k ∧ Below w.heap.size w wr ∧ Hid (X.take k = Y.take k)) (fun _ _ _ i _ => n - (intOf i).toNat)
    case atStart => exact ⟨0, Nat.zero_le _, rfl, hb0, by exact (rfl : X.take 0 = Y.take 0)⟩
    case round =>
      obtain ⟨k, hk, rfl, hb, ht⟩ := hrel
      clear hb0
      by_cases hlt : k < n
      · obtain ⟨ad, A1, c1, x, rfl, hx, hcx, hIx⟩ := ((unhide HA).1.below hb).at_ hlt
        obtain ⟨ad2, A2, c2, y, rfl, hy, hcy, hIy⟩ := ((unhide HA).2.1.below hb).at_ hlt
        have sx := (unhide HA).2.2.1 x (List.mem_of_getElem? hx)
        have sy := (unhide HA).2.2.2 y (List.mem_of_getElem? hy)
        obtain ⟨b, hbb⟩ : ∃ b, decide (x = y) = b := ⟨_, rfl⟩
        have H1 := hide (eqsl_any A1 A2 _ c1 _ _ c2 _ x y b hbb wr (hIx.arg sx.1 hIx.cap sx.2) (hIy.arg sy.1 hIy.cap sy.2))
        have HXY := hide (⟨hx, hy, hbb⟩ : X[k]? = some x ∧ Y[k]? = some y ∧ decide (x = y) = b)
        obtain ⟨lx, hlx⟩ : ∃ l, l = x.length := ⟨_, rfl⟩
        obtain ⟨ly, hly⟩ : ∃ l, l = y.length := ⟨_, rfl⟩
        rw [← hlx] at hcx H1
        rw [← hly] at hcy H1
        clear hx hy hIx hIy sx sy hbb hlx hly
        cases b with
        | true =>
          have hst := hide (show X.take (k + 1) = Y.take (k + 1) by rw [List.take_add_one, List.take_add_one, unhide ht, (unhide HXY).1, (unhide HXY).2.1, of_decide_eq_true (unhide HXY).2.2])
          go_wp2_with fail
          refine (unhide H1).mono ?_
          rintro e w2 ⟨rfl, d2⟩
          have hb2 := hb.trans (d2.below _)
          clear H1 d2 hb hcx hcy ht
          go_wp2
          go_roundw
          case rel => exact ⟨k + 1, by omega, by go_num, hb2, hst⟩
          case measure => simp [intOf]; omega
        | false =>
          have HF := hide (rows_ne (unhide HXY).1 (unhide HXY).2.1 (of_decide_eq_false (unhide HXY).2.2))
          go_wp2_with fail
          refine (unhide H1).mono ?_
          rintro e w2 ⟨rfl, d2⟩
          have hb2 := hb.trans (d2.below _)
          clear H1 d2 hb hcx hcy ht
          go_wp2
          go_ret
          exact ⟨ret_bool (unhide HF).symm, hb2⟩
      · obtain rfl : n = k := by omega
        have HT := hide (show decide (X = Y) = true by
          have h := unhide ht
          rw [List.take_of_length_le (by rw [(unhide HL).1]; exact Nat.le_refl _), List.take_of_length_le (by rw [(unhide HL).2]; exact Nat.le_refl _)] at h
          exact decide_eq_true h)
        clear ht
        go_wp2
        go_ret
        exact ⟨ret_bool (unhide HT).symm, hb⟩
  · have hne : decide (X = Y) = false := by
      rw [decide_eq_false_iff_not]
      rintro rfl
      omega
    rw [hne]
    have hb0 := Below.refl w.heap.size w
    have hnb : ((n : Int) == (n' : Int)) = false := by rw [beq_eq_false_iff_ne]; omega
    clear hX hY hlx hly hne
    go_enter Tryd.func87, Tryd.ntmps87
    go_wp2
    go_ret
    exact ⟨rfl, hb0⟩
theorem mkR_rows (zss : List (List Int)) : (mkR zss).length ≤ 8 ∧ tot (mkR zss) ≤ 64 ∧ ∀ z ∈ mkR zss, isP z = true := by
  cases h : mkOK zss with
  | false => rw [mkR_no h]; simp [tot]
  | true =>
    have hb : basis (mkO zss) = true := by unfold mkOK at h; rw [Bool.and_eq_true] at h; exact h.2
    rw [mkR_yes h]
    have h1 := basis_le hb
    have h2 := fun z hz => (basis_isP hb z hz).1
    exact ⟨h1, by have := tot_room 8 (mkO zss) (fun z hz => isP_le (h2 z hz)); omega, h2⟩
set_option maxHeartbeats 1600000 in
theorem ibas2_any (A : Option Addr) (n c B : Nat) (zss : List (List Int)) (w : World) (hS : IntsS w B (.slice A n c) zss) (hn : n ≤ 1048576) (hsm : ∀ z ∈ zss, z.length ≤ 1048576 ∧ Small z) :
    Calls Tryd.prog 62 #[.slice A n c] w (GivesB w (basis zss)) := by
  have H1 := hide (imkb_any A n c B zss w hS hn hsm)
  have hR := mkR_rows zss
  rw [basis_made]
  obtain ⟨b, hb⟩ : ∃ b, mkOK zss = b := ⟨_, rfl⟩
  rw [hb] at H1 ⊢
  cases b with
  | false =>
    clear hS hsm hb hR
    go_enter Tryd.func62, Tryd.ntmps62
    go_wp2_with fail
    refine (unhide H1).mono ?_
    rintro e w1 ⟨A1, c1, rfl, o1, d1⟩
    clear H1 o1
    go_wp2
    go_ret
    exact ⟨rfl, d1⟩
  | true =>
    have HH := hide (fun (w1 : World) (d : Below w.heap.size w w1) (A1 : Option Addr) (c1 : Nat) (o1 : IntsS w1 w.heap.size (.slice A1 (mkR zss).length c1) (mkR zss)) => equalF_any A A1 n c B _ c1 _ zss (mkR zss) w1 (hS.below d) o1 hn hsm (fun z hz => ⟨by have := isP_le (hR.2.2 z hz); omega, isP_small (hR.2.2 z hz)⟩))
    obtain ⟨bb, hbb⟩ : ∃ bb, bb = (true && decide (zss = mkR zss)) := ⟨_, rfl⟩
    rw [← hbb]
    rw [Bool.true_and] at hbb
    simp only [← hbb] at HH
    clear hS hsm hb hR hbb
    go_enter Tryd.func62, Tryd.ntmps62
    go_wp2_with fail
    refine (unhide H1).mono ?_
    rintro e w1 ⟨A1, c1, rfl, o1, d1⟩
    have H2 := hide (unhide HH w1 d1 A1 c1 o1)
    clear H1 HH o1
    go_wp2_with fail
    refine (unhide H2).mono ?_
    rintro e w2 ⟨rfl, d2⟩
    have hb2 := below_after d1 d2
    clear H2 d1 d2
    go_wp2
    go_ret
    exact ⟨rfl, hb2⟩
theorem ibas_any (A : Option Addr) (n c B : Nat) (zss : List (List Int)) (w : World) (hS : IntsS w B (.slice A n c) zss) (hn : n ≤ 1048576) (hsm : ∀ z ∈ zss, z.length ≤ 1048576 ∧ Small z) :
    Calls Tryd.prog 62 #[.slice A n c] w (GivesB w (basis zss)) := ibas2_any A n c B zss w hS hn hsm
end Go.Proofs.YtoiipedomgefaaaDoor


/-
  errors.Is at nil and at the very error asked for; impl.checkBases, by their contracts (where the variable errNoBasis holds an error).
-/

namespace Go.Proofs.YtoiipedomgefaaaDoor
set_option maxRecDepth 100000
open Go.RowKit

/-- The variable errNoBasis holds the error at a. -/
def ErrAt (a : Addr) (w : World) : Prop := w.cell? ⟨0, 0, none⟩ = some (.iface 126 (.pointer (some a)))
theorem ErrAt.below {a : Addr} {w w' : World} (h : ErrAt a w) (hb : Below w.heap.size w w') : ErrAt a w' := (hb.cell (World.block_lt_of_cell? w _ h)).trans h
/-! what errors.Is asks of the error's type -/
theorem err_typeOf (v : Value) (w : World) : (Extern.ReflectliteType.typeOf #[.iface 126 v]).run Tryd.prog w = .ok (.iface 77 (.agg #[.pointer (some ⟨1, 126, none⟩)])) w := by kernel_rfl
theorem err_comparable (w : World) : (Extern.ReflectliteType.method (fun t => do Extern.Rtype.noPackHeld "Comparable" t; pure (.bool (← typeInfo t).comparable)) #[.agg #[.pointer (some ⟨1, 126, none⟩)]]).run Tryd.prog w = .ok (.bool true) w := by kernel_rfl
theorem err_cmpCall (w : World) : (callFunc 145 #[.agg #[.pointer (some ⟨1, 126, none⟩)]]).run Tryd.prog w = .ok (.value (.bool true)) w := by
  have h := @run_callFunc_extern Tryd.prog 145 _ (Extern.ReflectliteType.method fun t => do Extern.Rtype.noPackHeld "Comparable" t; pure (.bool (← typeInfo t).comparable)) Tryd.func145 (by kernel_rfl) (by kernel_rfl) (by kernel_rfl) (by kernel_rfl) #[.agg #[.pointer (some ⟨1, 126, none⟩)]] w
  rw [h, err_comparable]
  rfl
theorem err_method (v : Value) (w : World) : (Go.method 263 77 v "Comparable").run Tryd.prog w = .ok (145, v) w := by kernel_rfl
theorem err_comp : (Tryd.prog.info? 126).map (·.comparable) = some true := by kernel_rfl
theorem err_size : (Tryd.prog.info? 151).map (·.size) = some 1 := by kernel_rfl
set_option maxHeartbeats 1600000 in
/-- errors.Is, the error asked for. -/
theorem isSame_any (a : Addr) (w : World) :
    Calls Tryd.prog 34 #[.iface 126 (.pointer (some a)), .iface 126 (.pointer (some a))] w fun e w' => e = .returned (.bool true) ∧ w' = w := by
  obtain ⟨i, hi, hcmp⟩ := Option.map_eq_some_iff.1 err_comp
  obtain ⟨j, hj, hjs⟩ := Option.map_eq_some_iff.1 err_size
  have h8 := @run_callFunc_extern Tryd.prog 60 _ Extern.ReflectliteType.typeOf Tryd.func60 (by kernel_rfl) (by kernel_rfl) (by kernel_rfl) (by kernel_rfl)
  have h32 := err_cmpCall
  have tT := err_typeOf
  have mR := err_method
  have heq := run_eql_iface_ptr_same (P := Tryd.prog) w a Tryd.underlying41 Tryd.underlying126 hi hcmp hj
  go_enter Tryd.func34, Tryd.ntmps34
  go_wp2
  refine wp_loop_rounds 1 ?_
  rw [rounds_succ]
  go_wp2
  go_ret
  exact ⟨rfl, rfl⟩
set_option maxHeartbeats 1600000 in
/-- errors.Is, no error. -/
theorem isNil_any (a : Addr) (w : World) :
    Calls Tryd.prog 34 #[.nilIface, .iface 126 (.pointer (some a))] w fun e w' => e = .returned (.bool false) ∧ w' = w := by
  have hn := run_eql_iface_nil_left (P := Tryd.prog) w 126 (.pointer (some a)) Tryd.underlying41
  go_enter Tryd.func34, Tryd.ntmps34
  go_wp2
  go_ret
  exact ⟨rfl, rfl⟩
/-! the lists handed to checkBases -/
def ListsAt (w : World) (gs : Nat) (Ls : List (List (List Int))) : Prop := ∀ k L, Ls[k]? = some L → ∃ A n c B, w.cell? ⟨gs, k, none⟩ = some (.slice A n c) ∧ IntsS w B (.slice A n c) L ∧ n ≤ 1048576 ∧ ∀ z ∈ L, z.length ≤ 1048576 ∧ Small z
theorem ListsAt.below {w w' : World} {gs : Nat} {Ls : List (List (List Int))} (h : ListsAt w gs Ls) (hb : Below w.heap.size w w') : ListsAt w' gs Ls := fun k L hk => by
  obtain ⟨A, n, c, B, h1, h2, h3, h4⟩ := h k L hk
  exact ⟨A, n, c, B, (hb.cell (World.block_lt_of_cell? w _ h1)).trans h1, h2.below hb, h3, h4⟩
theorem ListsAt.one {w : World} {t : TypeId} {A : Option Addr} {n c B : Nat} {L : List (List Int)} (h : IntsS w B (.slice A n c) L) (hn : n ≤ 1048576) (hs : ∀ z ∈ L, z.length ≤ 1048576 ∧ Small z) : ListsAt (w.alloc (.cells #[.slice A n c] t)) w.heap.size [L] := fun k L' hk => by
  have hb := (Below.refl w.heap.size w).alloc (Nat.le_refl _) (.cells #[.slice A n c] t)
  match k with
  | 0 => cases hk; exact ⟨A, n, c, B, (Whole.new w t #[.slice A n c]).cell 0, h.below hb, hn, hs⟩
  | k + 1 => cases hk
theorem ListsAt.two {w : World} {t : TypeId} {A A' : Option Addr} {n c B n' c' B' : Nat} {L L' : List (List Int)} (h : IntsS w B (.slice A n c) L) (hn : n ≤ 1048576) (hs : ∀ z ∈ L, z.length ≤ 1048576 ∧ Small z) (h' : IntsS w B' (.slice A' n' c') L') (hn' : n' ≤ 1048576) (hs' : ∀ z ∈ L', z.length ≤ 1048576 ∧ Small z) : ListsAt (w.alloc (.cells #[.slice A n c, .slice A' n' c'] t)) w.heap.size [L, L'] := fun k L9 hk => by
  have hb := (Below.refl w.heap.size w).alloc (Nat.le_refl _) (.cells #[.slice A n c, .slice A' n' c'] t)
  match k with
  | 0 => cases hk; exact ⟨A, n, c, B, (Whole.new w t #[.slice A n c, .slice A' n' c']).cell 0, h.below hb, hn, hs⟩
  | 1 => cases hk; exact ⟨A', n', c', B', (Whole.new w t #[.slice A n c, .slice A' n' c']).cell 1, h'.below hb, hn', hs'⟩
  | k + 2 => cases hk
/-- What checkBases gives. -/
def chkV (a0 : Addr) (b : Bool) : Value := if b then .nilIface else .iface 126 (.pointer (some a0))
set_option maxHeartbeats 1600000 in
theorem icheck_any (gs N : Nat) (Ls : List (List (List Int))) (a0 : Addr) (w : World) (h : ListsAt w gs Ls) (hl : Ls.length = N) (hN : N ≤ 2) (hE : ErrAt a0 w) :
    Calls Tryd.prog 35 #[.slice (some ⟨gs, 0, none⟩) N N] w fun e w' => e = .returned (chkV a0 (Ls.all basis)) ∧ Below w.heap.size w w' := by
  have HH := hide (⟨h, hE⟩ : ListsAt w gs Ls ∧ ErrAt a0 w)
  have HL := hide hl
  have hb0 := Below.refl w.heap.size w
  clear h hE hl
  go_enter Tryd.func35, Tryd.ntmps35
  go_wp2
  go_loopw [4, 7] (fun _ i wr => ∃ k : Nat, k ≤ N ∧ i = .int .i64 k ∧ Below w.heap.size w wr ∧ Hid (∀ L ∈ Ls.take k, basis L = true)) (fun _ i _ => N - (intOf i).toNat)
  case atStart => exact ⟨0, Nat.zero_le _, rfl, hb0, fun L hL => by simp at hL⟩
  case round =>
    obtain ⟨k, hk, rfl, hb, hP⟩ := hrel
    clear hb0
    by_cases hlt : k < N
    · obtain ⟨L, hLk⟩ : ∃ L, Ls[k]? = some L := ⟨_, List.getElem?_eq_getElem (by rw [unhide HL]; exact hlt)⟩
      obtain ⟨A, n, c, B, hcell, hS, hn, hs⟩ := ((unhide HH).1.below hb) k L hLk
      have hE : w.cell? ⟨0, 0, none⟩ = _ := (unhide HH).2
      have hEr := (unhide HH).2.below hb
      have H1 := hide (ibas_any A n c B L wr hS hn hs)
      obtain ⟨b, hbb⟩ : ∃ b, basis L = b := ⟨_, rfl⟩
      rw [hbb] at H1
      have HE := hide (fun (w2 : World) (d : Below wr.heap.size wr w2) => hEr.below d)
      cases b with
      | true =>
        have hP2 : Hid (∀ L ∈ Ls.take (k + 1), basis L = true) := hide (fun y hy => by
          rw [List.take_add_one, hLk] at hy
          rcases List.mem_append.1 hy with hy | hy
          · exact unhide hP y hy
          · simp at hy; subst hy; exact hbb)
        clear hS hs hE hEr hLk hbb hP HE
        go_wp2_with fail
        refine (unhide H1).mono ?_
        rintro e w2 ⟨rfl, d2⟩
        have hb2 := below_after hb d2
        clear H1 d2 hb hcell
        go_wp2
        go_roundw
        case rel => exact ⟨k + 1, by omega, by go_num, hb2, hP2⟩
        case measure => simp [intOf]; omega
      | false =>
        have HF := hide (show chkV a0 (Ls.all basis) = .iface 126 (.pointer (some a0)) by
          have : Ls.all basis = false := by
            rw [List.all_eq_false]
            exact ⟨L, List.mem_of_getElem? hLk, by rw [hbb]; simp⟩
          rw [this]; rfl)
        clear hS hs hE hEr hLk hbb hP
        go_wp2_with fail
        refine (unhide H1).mono ?_
        rintro e w2 ⟨rfl, d2⟩
        have hb2 := below_after hb d2
        have hE2 : w2.cell? ⟨0, 0, none⟩ = some (.iface 126 (.pointer (some a0))) := unhide HE w2 d2
        clear H1 d2 hb hcell HE
        go_wp2
        go_ret
        exact ⟨by rw [unhide HF]; rfl, hb2⟩
    · obtain rfl : k = N := by omega
      have HF := hide (show chkV a0 (Ls.all basis) = .nilIface by
        have : Ls.all basis = true := by
          rw [List.all_eq_true]
          intro L hL
          exact unhide hP L (by rw [List.take_of_length_le (by rw [unhide HL]; exact Nat.le_refl _)]; exact hL)
        rw [this]; rfl)
      clear hP
      go_wp2
      go_ret
      exact ⟨by rw [unhide HF]; rfl, hb⟩
end Go.Proofs.YtoiipedomgefaaaDoor


/-
  PLAIN: the ways of impl's chapter 13: a joined list of two classes, the first element that is beyond, straight permutations by their order. Nothing here speaks of the program.
-/

namespace Go.Proofs.YtoiipedomgefaaaDoor
set_option maxRecDepth 100000

/-! UnionUpTo -/
theorem outU_same {X Y : List (List Int)} (h : ∀ x, x ∈ X ↔ x ∈ Y) (p : List Int) : outU X p = outU Y p := by
  have e : ∀ q : List Int, decide (q ∈ X ++ [[]]) = decide (q ∈ Y ++ [[]]) := fun q => by rw [decide_eq_decide, List.mem_append, List.mem_append, h q]
  unfold outU lowIn
  rw [e p]
  congr 2
  congr 1
  funext q
  exact e q
theorem bu_same {X Y : List (List Int)} (hX : allP X = true) (hY : allP Y = true) {k : Nat} (hk : k ≤ 6) (h : ∀ x, x ∈ X ↔ x ∈ Y) : buR X (k : Int) = buR Y (k : Int) := by
  rw [buR_yes hX hk, buR_yes hY hk, ← bu_all X k hk, ← bu_all Y k hk]
  exact List.filter_congr fun p _ => by rw [outU_same h p]
theorem uni_join (a b : List (List Int)) {k : Nat} (hk : k ≤ 5) : buR (clsU a k ++ clsU b k) (k : Int) = buR (uniN a b (k + 1)) (k : Int) := by
  refine bu_same (allP_yes fun z hz => ?_) (allP_yes fun z hz => uniN_P (by omega) z hz) (by omega) fun x => ?_
  · rcases List.mem_append.1 hz with hz | hz
    · exact (clsU_mem (by omega) hz).1
    · exact (clsU_mem (by omega) hz).1
  · rw [clsU_all, clsU_all]
    unfold allC uniN
    rw [List.mem_append, List.mem_flatMap, List.mem_flatMap, List.mem_flatMap]
    constructor
    · rintro (⟨j, hj, hx⟩ | ⟨j, hj, hx⟩)
      · exact ⟨j, hj, List.mem_append_left _ hx⟩
      · exact ⟨j, hj, List.mem_append_right _ hx⟩
    · rintro ⟨j, hj, hx⟩
      rcases List.mem_append.1 hx with hx | hx
      · exact .inl ⟨j, hj, hx⟩
      · exact .inr ⟨j, hj, hx⟩
/-! FirstBeyond -/
/-- The first one beyond is an element of b. -/
theorem bey_mem {a b : List (List Int)} (ha : basis a = true) (hb : basis b = true) {m : Nat} (hm : m ≤ 6) {p : List Int} (h : (allU m).find? (beyP a b) = some p) : p ∈ b ∧ avo a p = true := by
  have h1 := List.find?_some h
  obtain ⟨hp, hpl⟩ := (mem_allU hm).1 (List.mem_of_find?_eq_some h)
  unfold beyP at h1
  simp only [Bool.and_eq_true, Bool.not_eq_true'] at h1
  obtain ⟨q, hq, hpq⟩ := avo_not h1.2
  have hqp := (basis_isP hb q hq).1
  obtain ⟨hl, he⟩ := hasO_len hp hqp hpq
  by_cases hne : q.length = p.length
  · rw [← he hne]
    exact ⟨hq, by rw [he hne]; exact h1.1⟩
  · exfalso
    have hqa : avo a q = true := avo_yes.2 fun s hs => by
      cases hh : hasO q s with
      | false => rfl
      | true =>
        have h2 := hasO_trans hp hqp (basis_isP ha s hs).1 hpq hh
        rw [avo_yes.1 h1.1 s hs] at h2; cases h2
    have hbey : beyP a b q = true := by unfold beyP; rw [hqa, avo_own hq hqp]; rfl
    have hbef : befL q p = true := by rw [befL_ne hne]; exact decide_eq_true (by omega)
    obtain ⟨_, k, hk, hkp, hno⟩ := List.find?_eq_some_iff_getElem.1 h
    have hmem := asc_take (allU_asc m hm) (k := k) (p := p) (by rw [List.getElem?_eq_getElem hk, hkp]) ((mem_allU hm).2 ⟨hqp, by omega⟩) hbef
    obtain ⟨j, hj, hjq⟩ := List.getElem_of_mem hmem
    rw [List.length_take] at hj
    rw [List.getElem_take] at hjq
    have := hno j (by omega)
    rw [hjq, hbey] at this
    cases this
theorem asc_le {b : List (List Int)} (hb : basis b = true) {i j : Nat} {x y : List Int} (hx : b[i]? = some x) (hy : b[j]? = some y) (hij : i ≤ j) : x = y ∨ befL x y = true := by
  obtain ⟨h1, rfl⟩ := List.getElem?_eq_some_iff.1 hx
  obtain ⟨h2, rfl⟩ := List.getElem?_eq_some_iff.1 hy
  have hA := basis_asc hb
  unfold Asc at hA
  rcases Nat.lt_or_ge i j with h | h
  · exact .inr (List.pairwise_iff_getElem.1 hA i j h1 h2 h)
  · obtain rfl : i = j := by omega
    exact .inl rfl
theorem at_late {b : List (List Int)} {f : List Int → Bool} {i : Nat} {p : List Int} (hp : p ∈ b) (hf : f p = true) (hno : ∀ y ∈ b.take i, f y = false) : ∃ j, i ≤ j ∧ b[j]? = some p := by
  obtain ⟨j, hj, rfl⟩ := List.getElem_of_mem hp
  refine ⟨j, ?_, List.getElem?_eq_getElem hj⟩
  apply Classical.byContradiction
  intro hlt
  have := hno b[j] (List.mem_of_getElem? (i := j) (by rw [List.getElem?_take_of_lt (by omega)]; exact List.getElem?_eq_getElem hj))
  rw [hf] at this; cases this
theorem bey_none_at {a b : List (List Int)} (ha : basis a = true) (hb : basis b = true) {m : Nat} (hm : m ≤ 6) (h : ∀ q ∈ b, avo a q = false) : beyF a b (m : Int) = none := by
  rw [bey_yes ha hb hm]
  cases hf : (allU m).find? (beyP a b) with
  | none => rfl
  | some p =>
    obtain ⟨h1, h2⟩ := bey_mem ha hb hm hf
    rw [h p h1] at h2; cases h2
theorem bey_long {a b : List (List Int)} (ha : basis a = true) (hb : basis b = true) {m i : Nat} (hm : m ≤ 6) {z : List Int} (hz : b[i]? = some z) (hno : ∀ y ∈ b.take i, avo a y = false) (hl : m < z.length) : beyF a b (m : Int) = none := by
  rw [bey_yes ha hb hm]
  cases hf : (allU m).find? (beyP a b) with
  | none => rfl
  | some p =>
    obtain ⟨h1, h2⟩ := bey_mem ha hb hm hf
    obtain ⟨j, hj, hpj⟩ := at_late h1 h2 hno
    have h3 := ((mem_allU hm).1 (List.mem_of_find?_eq_some hf)).2
    rcases asc_le hb hz hpj hj with rfl | h4
    · omega
    · have := befL_len h4
      omega
theorem bey_at {a b : List (List Int)} (ha : basis a = true) (hb : basis b = true) {m i : Nat} (hm : m ≤ 6) {z : List Int} (hz : b[i]? = some z) (hza : avo a z = true) (hno : ∀ y ∈ b.take i, avo a y = false) (hl : z.length ≤ m) : beyF a b (m : Int) = some z := by
  rw [bey_yes ha hb hm]
  have hzb := List.mem_of_getElem? hz
  have hzp := (basis_isP hb z hzb).1
  have hbey : beyP a b z = true := by unfold beyP; rw [hza, avo_own hzb hzp]; rfl
  have hzm := (mem_allU hm).2 ⟨hzp, hl⟩
  cases hf : (allU m).find? (beyP a b) with
  | none =>
    have := List.find?_eq_none.1 hf z hzm
    rw [hbey] at this
    exact absurd rfl this
  | some p =>
    obtain ⟨h1, h2⟩ := bey_mem ha hb hm hf
    obtain ⟨j, hj, hpj⟩ := at_late h1 h2 hno
    rcases asc_le hb hz hpj hj with rfl | h4
    · rfl
    · exfalso
      obtain ⟨_, k, hk, hkp, hno2⟩ := List.find?_eq_some_iff_getElem.1 hf
      have hmem := asc_take (allU_asc m hm) (k := k) (p := p) (by rw [List.getElem?_eq_getElem hk, hkp]) hzm h4
      obtain ⟨l, hl2, hlz⟩ := List.getElem_of_mem hmem
      rw [List.length_take] at hl2
      rw [List.getElem_take] at hlz
      have := hno2 l (by omega)
      rw [hlz, hbey] at this
      cases this
end Go.Proofs.YtoiipedomgefaaaDoor
