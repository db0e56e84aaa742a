
/-
  ROWS OF ROWS OF INTEGERS: the words for them, and the contracts of eqIntSS, markIntSS, heldIntSS.
-/
import Derived.Test.YtknjgehcaadomaaInts
import Derived.Test.YtknjgehcaadomaaPermL
import Derived.Deep.QuietTactic
import Derived.BigQuiet
namespace Go.Proofs.Ytknjgehcaadomaa
set_option maxRecDepth 100000
open Go.RowKit

theorem rowsInfo : (Try.prog.info? 24).map (fun i => (i.zero, i.size, i.bytes)) = some (some (.slice none 0 0), 1, 24) := by kernel_rfl

/-- Nothing that is no list of rows has turned. -/
structure KeepI (w w' : World) : Prop where
  os : w'.os = w.os
  tape : w'.tape = w.tape
  output : w'.output = w.output
  size : w.heap.size ≤ w'.heap.size
  block : ∀ (i : Nat) cur e fr, w.heap[i]? = some (.cells cur e fr) → e ≠ 24 → w'.heap[i]? = w.heap[i]?
theorem KeepI.refl (w : World) : KeepI w w := ⟨rfl, rfl, rfl, Nat.le_refl _, fun _ _ _ _ _ _ => rfl⟩
theorem KeepI.trans {a b c : World} (h : KeepI a b) (k : KeepI b c) : KeepI a c :=
  ⟨k.os.trans h.os, k.tape.trans h.tape, k.output.trans h.output, Nat.le_trans h.size k.size, fun i cur e fr hi he => by
    have h1 := h.block i cur e fr hi he
    exact (k.block i cur e fr (h1.trans hi) he).trans h1⟩
theorem KeepI.of_below {w w' : World} (h : Below w.heap.size w w') : KeepI w w' :=
  ⟨h.os, h.tape, h.output, h.size, fun i _ _ _ hi _ => h.block i (Array.getElem?_eq_some_iff.1 hi).1⟩
theorem KeepI.of_grown {w w' : World} {B n : Nat} {v : Value} {xs : List Value} (hown : w.ownsRow B 24 1 v n xs) (h : w.grownBy w' v.ownBlock) : KeepI w w' :=
  ⟨h.os, h.tape, h.output, h.size, fun i cur e fr hi he => by
    refine h.block i (Array.getElem?_eq_some_iff.1 hi).1 fun hv => ?_
    rcases hown.2 with ⟨rfl, _⟩ | ⟨g, cap, cur', rfl, _, hg, _⟩
    · simp [Value.ownBlock] at hv
    · simp [Value.ownBlock] at hv
      subst hv
      rw [hi] at hg
      injection hg with hg
      injection hg with _ h2
      exact he h2⟩
theorem Ints.keepI {w w' : World} {B : Nat} {v : Value} {zs : List Int} (h : Ints w B v zs) (hk : KeepI w w') : Ints w' B v zs := by
  refine ⟨h.1, ?_⟩
  rcases h.2 with hn | ⟨g, cap, cur, e, rfl, hb, hgg, h1, h2, he⟩
  · exact .inl hn
  · exact .inr ⟨g, cap, cur, e, rfl, hb, (hk.block g cur e _ hgg he).trans hgg, h1, h2, he⟩
/-- No row lies where a list of rows lies. -/
theorem rows_apart {w : World} {B B' n : Nat} {v u : Value} {xs : List Value} {zs : List Int} (hown : w.ownsRow B 24 1 v n xs) (h : Ints w B' u zs) : v.ownBlock = none ∨ v.ownBlock ≠ u.ownBlock := by
  rcases hown.2 with ⟨rfl, _⟩ | ⟨g, cap, cur, rfl, _, hg, _⟩
  · exact .inl rfl
  · refine .inr fun e => ?_
    rcases h.2 with ⟨rfl, _⟩ | ⟨g', cap', cur', t, rfl, _, hg', _, _, he⟩
    · simp [Value.ownBlock] at e
    · simp [Value.ownBlock] at e
      subst e
      rw [hg] at hg'
      injection hg' with hg'
      injection hg' with _ h2
      exact he h2.symm

def Away (a b : Value) : Prop := a.ownBlock = none ∨ a.ownBlock ≠ b.ownBlock
theorem Away.symm {a b : Value} (h : Away a b) : b.ownBlock = none ∨ b.ownBlock ≠ a.ownBlock := by
  rcases h with h | h
  · cases hb : b.ownBlock with
    | none => exact .inl rfl
    | some k => exact .inr (by rw [h]; simp)
  · exact .inr fun e => h e.symm
/-- The values vs are rows that hold the lists zss, no two at one place. -/
structure Inner (w : World) (B : Nat) (vs : List Value) (zss : List (List Int)) : Prop where
  len : vs.length = zss.length
  row : ∀ (i : Nat) u zs, vs[i]? = some u → zss[i]? = some zs → Ints w B u zs
  away : vs.Pairwise Away
theorem Inner.nil (w : World) (B : Nat) : Inner w B [] [] := ⟨rfl, fun i u zs h => by simp at h, List.Pairwise.nil⟩
theorem Inner.keepI {w w' : World} {B : Nat} {vs : List Value} {zss : List (List Int)} (h : Inner w B vs zss) (hk : KeepI w w') : Inner w' B vs zss :=
  ⟨h.len, fun i u zs hu hz => (h.row i u zs hu hz).keepI hk, h.away⟩
theorem Inner.low {w : World} {B B' : Nat} {vs : List Value} {zss : List (List Int)} (h : Inner w B vs zss) (hB : B' ≤ B) : Inner w B' vs zss :=
  ⟨h.len, fun i u zs hu hz => (h.row i u zs hu hz).low hB, h.away⟩
theorem Inner.push {w : World} {B : Nat} {vs : List Value} {zss : List (List Int)} {u : Value} {zs : List Int} (h : Inner w B vs zss) (hu : Ints w B u zs) (ha : ∀ x ∈ vs, Away x u) : Inner w B (vs ++ [u]) (zss ++ [zs]) := by
  refine ⟨by simp [h.len], fun i x ys hx hy => ?_, ?_⟩
  · have hl := h.len
    by_cases hi : i < vs.length
    · rw [List.getElem?_append_left hi] at hx
      rw [List.getElem?_append_left (by omega)] at hy
      exact h.row i x ys hx hy
    · rw [List.getElem?_append_right (by omega)] at hx
      rw [List.getElem?_append_right (by omega), ← hl] at hy
      have h0 : i - vs.length = 0 := by
        have := (List.getElem?_eq_some_iff.1 hx).1
        simp at this
        omega
      rw [h0] at hx hy
      simp at hx hy
      subst hx; subst hy
      exact hu
  · rw [List.pairwise_append]
    refine ⟨h.away, by simp, fun a ha' b hb => ?_⟩
    rw [List.mem_singleton] at hb
    subst hb
    exact ha a ha'
theorem Inner.mem {w : World} {B : Nat} {vs : List Value} {zss : List (List Int)} (h : Inner w B vs zss) {u : Value} (hu : u ∈ vs) : ∃ zs, Ints w B u zs := by
  obtain ⟨i, hi, rfl⟩ := List.getElem_of_mem hu
  exact ⟨_, h.row i _ (zss[i]'(by rw [← h.len]; exact hi)) (List.getElem?_eq_getElem hi) (List.getElem?_eq_getElem _)⟩
/-- A row made behind all of vs is away from them. -/
theorem Inner.away_new {w : World} {B B' : Nat} {vs : List Value} {zss : List (List Int)} (h : Inner w B vs zss) {u : Value} (hu : Since B' u) (hB : w.heap.size ≤ B') : ∀ x ∈ vs, Away x u := fun x hx => by
  obtain ⟨zs, hz⟩ := h.mem hx
  exact apart hz.until_ hu hB

/-- A list of rows of the call's own. -/
def IntsS (w : World) (B : Nat) (v : Value) (zss : List (List Int)) : Prop := ∃ vs, w.ownsRow B 24 1 v zss.length vs ∧ Inner w B vs zss
theorem IntsS.slice {w : World} {B : Nat} {v : Value} {zss : List (List Int)} (h : IntsS w B v zss) : ∃ A c, v = .slice A zss.length c := by
  obtain ⟨vs, h, _⟩ := h
  rcases h.2 with ⟨rfl, hz⟩ | ⟨g, cap, cur, rfl, _⟩
  · exact ⟨none, 0, by rw [hz]⟩
  · exact ⟨_, _, rfl⟩
theorem IntsS.below {w w' : World} {B : Nat} {v : Value} {zss : List (List Int)} (h : IntsS w B v zss) (hb : Below w.heap.size w w') : IntsS w' B v zss := by
  obtain ⟨vs, h1, h2⟩ := h
  exact ⟨vs, own_below h1 hb, h2.keepI (KeepI.of_below hb)⟩
theorem IntsS.low {w : World} {B B' : Nat} {v : Value} {zss : List (List Int)} (h : IntsS w B v zss) (hB : B' ≤ B) : IntsS w B' v zss := by
  obtain ⟨vs, h1, h2⟩ := h
  refine ⟨vs, ⟨h1.1, ?_⟩, h2.low hB⟩
  rcases h1.2 with h0 | ⟨g, cap, cur, hv, hb, hr⟩
  · exact .inl h0
  · exact .inr ⟨g, cap, cur, hv, Nat.le_trans hB hb, hr⟩
theorem IntsS.nil (w : World) (B : Nat) : IntsS w B (.slice none 0 0) [] := ⟨[], ⟨rfl, .inl ⟨rfl, rfl⟩⟩, Inner.nil w B⟩
theorem ownS0 (w : World) (B : Nat) (hB : B ≤ w.heap.size) : (w.alloc (.cells #[] 24)).ownsRow B 24 1 (.slice (some ⟨w.heap.size, 0, none⟩) 0 0) 0 [] :=
  World.ownsRow_made (base := B) (e := 24) (size := 1) w #[] 0 hB (by simp [maxLen]) rfl
theorem IntsS.made0 (w : World) (B : Nat) (hB : B ≤ w.heap.size) : IntsS (w.alloc (.cells #[] 24)) B (.slice (some ⟨w.heap.size, 0, none⟩) 0 0) [] := ⟨[], ownS0 w B hB, Inner.nil _ _⟩
/-- Behind a change of what lies at or above B'. -/
theorem IntsS.stay {w w' : World} {B B' : Nat} {v : Value} {zss : List (List Int)} (h : IntsS w B v zss) (hb : Below B' w w') (hu : w.heap.size ≤ B') : IntsS w' B v zss := h.below (hb.mono hu)
def GivesSS (w : World) (zss : List (List Int)) (e : Ending) (w' : World) : Prop := ∃ A c, e = .returned (.slice A zss.length c) ∧ IntsS w' w.heap.size (.slice A zss.length c) zss ∧ Below w.heap.size w w'
theorem GivesSS.mk {w w' : World} {v : Value} {zss : List (List Int)} (h : IntsS w' w.heap.size v zss) (hb : Below w.heap.size w w') : GivesSS w zss (.returned v) w' := by
  obtain ⟨A, c, rfl⟩ := h.slice
  exact ⟨A, c, rfl, h, hb⟩

/-- .. that lies below U. -/
def Sealed (w : World) (B U : Nat) (v : Value) (zss : List (List Int)) : Prop := ∃ vs, w.ownsRow B 24 1 v zss.length vs ∧ Inner w B vs zss ∧ Until U v ∧ ∀ x ∈ vs, Until U x
theorem IntsS.sealed {w : World} {B : Nat} {v : Value} {zss : List (List Int)} (h : IntsS w B v zss) : Sealed w B w.heap.size v zss := by
  obtain ⟨vs, h1, h2⟩ := h
  refine ⟨vs, h1, h2, fun k hk => (h1.lt k hk).2, fun x hx => ?_⟩
  obtain ⟨zs, hz⟩ := h2.mem hx
  exact hz.until_
theorem Sealed.opened {w : World} {B U : Nat} {v : Value} {zss : List (List Int)} (h : Sealed w B U v zss) : IntsS w B v zss := by
  obtain ⟨vs, h1, h2, _⟩ := h
  exact ⟨vs, h1, h2⟩
theorem Sealed.below {w w' : World} {B U : Nat} {v : Value} {zss : List (List Int)} (h : Sealed w B U v zss) (hb : Below w.heap.size w w') : Sealed w' B U v zss := by
  obtain ⟨vs, h1, h2, h3⟩ := h
  exact ⟨vs, own_below h1 hb, h2.keepI (KeepI.of_below hb), h3⟩
theorem Row.stay {w w' : World} {B B' n : Nat} {v : Value} {xs : List Value} (h : Row w B v n xs) (hu : Until B' v) (hb : Below B' w w') : Row w' B v n xs := by
  refine ⟨h.1, ?_⟩
  rcases h.2 with hn | ⟨g, cap, cur, e, rfl, hB, hgg, rest⟩
  · exact .inl hn
  · exact .inr ⟨g, cap, cur, e, rfl, hB, (hb.block g (hu g rfl)).trans hgg, rest⟩
theorem Ints.stay {w w' : World} {B B' U : Nat} {v : Value} {zs : List Int} (h : Ints w B v zs) (hu : Until U v) (hb : Below B' w w') (hU : U ≤ B') : Ints w' B v zs := Row.stay h (hu.mono hU) hb
theorem own_stay {w w' : World} {B B' n : Nat} {e : TypeId} {v : Value} {xs : List Value} (h : w.ownsRow B e 1 v n xs) (hu : Until B' v) (hb : Below B' w w') : w'.ownsRow B e 1 v n xs := by
  refine ⟨h.1, ?_⟩
  rcases h.2 with hn | ⟨g, cap, cur, rfl, hB, hgg, rest⟩
  · exact .inl hn
  · exact .inr ⟨g, cap, cur, rfl, hB, (hb.block g (hu g rfl)).trans hgg, rest⟩
theorem Sealed.stay {w w' : World} {B U B' : Nat} {v : Value} {zss : List (List Int)} (h : Sealed w B U v zss) (hb : Below B' w w') (hU : U ≤ B') : Sealed w' B U v zss := by
  obtain ⟨vs, h1, h2, h3, h4⟩ := h
  exact ⟨vs, own_stay h1 (h3.mono hU) hb, ⟨h2.len, fun i u zs hu hz => (h2.row i u zs hu hz).stay (h4 u (List.mem_of_getElem? hu)) hb hU, h2.away⟩, h3, h4⟩
/-- Behind a change of one row u that lies before it. -/
theorem Sealed.after {w w' : World} {B U E : Nat} {v u : Value} {zss : List (List Int)} (h : Sealed w B U v zss) (hg : w.grownBy w' u.ownBlock) (hu : Until E u) (hE : E ≤ B) : Sealed w' B U v zss := by
  obtain ⟨vs, h1, h2, h3⟩ := h
  refine ⟨vs, h1.kept hg (apart' (fun k hk => (h1.lt k hk).1) hu hE), ⟨h2.len, fun i x zs hx hz => ?_, h2.away⟩, h3⟩
  have hr := h2.row i x zs hx hz
  exact hr.kept hg (apart' hr.since hu hE)
/-- What lies at place i: the row's value, and what it reads. -/
theorem IntsS.at_ {w : World} {B n c : Nat} {A : Option Addr} {zss : List (List Int)} (h : IntsS w B (.slice A n c) zss) {i : Nat} (hi : i < n) :
    ∃ ad A' c' zs, A = some ad ∧ zss[i]? = some zs ∧ w.cell? (ad.add i) = some (.slice A' zs.length c') ∧ Ints w B (.slice A' zs.length c') zs := by
  obtain ⟨vs, h1, h2⟩ := h
  have hn : n = zss.length := by
    rcases h1.2 with ⟨hv, hz⟩ | ⟨g, cap, cur, hv, _⟩
    · injection hv with _ h3; omega
    · injection hv
  subst hn
  obtain ⟨ad, u, hA, _, hu, hc⟩ := (Reads.of_own_at h1).at_ hi
  have hz : zss[i]? = some zss[i] := List.getElem?_eq_getElem hi
  have hr := h2.row i u _ hu hz
  obtain ⟨A', c', rfl⟩ := hr.slice
  exact ⟨ad, A', c', _, hA, hz, hc, hr⟩
theorem IntsS.len {w : World} {B n c : Nat} {A : Option Addr} {zss : List (List Int)} (h : IntsS w B (.slice A n c) zss) : zss.length = n := by
  obtain ⟨A', c', hv⟩ := h.slice
  injection hv with _ h2; exact h2.symm

theorem Drew.keepI {w w' : World} (h : Drew w w') : KeepI w w' := KeepI.of_below (h.below _)
theorem tot_at {zss : List (List Int)} {i : Nat} {zs : List Int} (h : zss[i]? = some zs) : zs.length ≤ tot zss := by
  have h1 := tot_step h
  have h2 := tot_take zss (i + 1)
  omega
set_option maxHeartbeats 400000 in
/-- eqIntSS: equal lists of rows. -/
theorem eqss_any (A A' : Option Addr) (n c n' c' B B' : Nat) (zss : List (List Int)) (w : World) (hr : IntsS w B (.slice A n c) zss) (hr' : IntsS w B' (.slice A' n' c') zss) (hn : n ≤ 1048576) (ht : tot zss ≤ 1099511627776) :
    Calls Try.prog 9 #[.slice A n c, .slice A' n' c'] w fun e w' => e = .returned (.bool true) ∧ Drew w w' := by
  have e1 := hr.len
  have e2 := hr'.len
  obtain rfl : n = n' := by omega
  have HE := hide e1
  clear e1 e2
  go_enter Try.func9, Try.ntmps9
  go_wp2
  go_loopw [5] (fun i wr => ∃ k : Nat, k ≤ n ∧ i = .int .i64 k ∧ Drew w wr) (fun i _ => n - (intOf i).toNat)
  case atStart => exact ⟨0, Nat.zero_le _, rfl, Drew.refl _⟩
  case round =>
    obtain ⟨k, hk, rfl, hd⟩ := hrel
    by_cases hlt : k < n
    · obtain ⟨ad, A1, c1, zs, rfl, hz, hc, hI⟩ := (hr.below (hd.below _)).at_ hlt
      obtain ⟨ad', A1', c1', zs', rfl, hz', hc', hI'⟩ := (hr'.below (hd.below _)).at_ hlt
      obtain rfl : zs = zs' := by rw [hz] at hz'; exact Option.some.inj hz'
      have hle := tot_at hz
      have HD := hide hd
      have H1 := hide hI.reads
      have H2 := hide hI'.reads
      clear hz hz' hd hI hI' hr hr'
      go_wp2
      go_quiet ((go_at_call 8; exact Calls.quiet_of (eqi_any _ _ _ _ _ _ _ _ zs _ ((unhide H1).drewN _) ((unhide H2).drewN _) (by omega))))
      go_wp2
      go_roundw
      case rel => exact ⟨k + 1, by omega, by go_num, (unhide HD).more _⟩
      case measure => simp [intOf]; omega
    · go_wp2
      go_ret
      exact ⟨rfl, hd⟩
/-- The marks from k on, row by row. -/
def mkS (k : Nat) : List (List Int) → List (List Int)
  | [] => []
  | z :: r => marksI k z.length :: mkS (k + z.length) r
theorem mkS_length : ∀ (k : Nat) (zss : List (List Int)), (mkS k zss).length = zss.length
  | _, [] => rfl
  | k, z :: r => by rw [mkS, List.length_cons, List.length_cons, mkS_length _ r]
theorem mkS_at : ∀ (k : Nat) (zss : List (List Int)) (i : Nat) (z : List Int), zss[i]? = some z → (mkS k zss)[i]? = some (marksI (k + tot (zss.take i)) z.length)
  | _, [], i, z, h => by simp at h
  | k, y :: r, 0, z, h => by
    simp at h
    subst h
    simp [mkS, tot]
  | k, y :: r, i + 1, z, h => by
    have := mkS_at (k + y.length) r i z (by simpa using h)
    rw [mkS, List.getElem?_cons_succ, this]
    simp [tot, Nat.add_assoc]
/-- Where markIntSS stands behind i rows. -/
def Half (w : World) (B : Nat) (vs : List Value) (k : Nat) (zss : List (List Int)) (i : Nat) : Prop :=
  ∀ (j : Nat) u zs, vs[j]? = some u → zss[j]? = some zs → Ints w B u (if j < i then marksI (k + tot (zss.take j)) zs.length else zs)
theorem Half.start {w : World} {B : Nat} {vs : List Value} {zss : List (List Int)} (k : Nat) (h : Inner w B vs zss) : Half w B vs k zss 0 := fun j u zs hu hz => by
  rw [if_neg (by omega)]
  exact h.row j u zs hu hz
theorem Half.step {w w' : World} {B : Nat} {vs : List Value} {k i : Nat} {zss : List (List Int)} {u : Value} {zs : List Int} (h : Half w B vs k zss i) (ha : vs.Pairwise Away) (hu : vs[i]? = some u) (hz : zss[i]? = some zs)
    (hm : Ints w' B u (marksI (k + tot (zss.take i)) zs.length)) (hg : w.grownBy w' u.ownBlock) : Half w' B vs k zss (i + 1) := fun j x ys hx hy => by
  by_cases hj : j = i
  · subst hj
    rw [hu] at hx
    rw [hz] at hy
    injection hx with hx
    injection hy with hy
    subst hx; subst hy
    rw [if_pos (by omega)]
    exact hm
  · have h1 := h j x ys hx hy
    have e : (if j < i + 1 then marksI (k + tot (zss.take j)) ys.length else ys) = (if j < i then marksI (k + tot (zss.take j)) ys.length else ys) := by
      by_cases hlt : j < i
      · rw [if_pos (by omega), if_pos hlt]
      · rw [if_neg (by omega), if_neg hlt]
    rw [e]
    obtain ⟨hxl, hxe⟩ := List.getElem?_eq_some_iff.1 hx
    obtain ⟨hul, hue⟩ := List.getElem?_eq_some_iff.1 hu
    rw [List.pairwise_iff_getElem] at ha
    refine h1.kept hg ?_
    subst hxe
    subst hue
    by_cases hlt : j < i
    · exact ha j i hxl hul hlt
    · exact (ha i j hul hxl (by omega)).symm
theorem Half.done {w : World} {B : Nat} {vs : List Value} {k : Nat} {zss : List (List Int)} (h : Half w B vs k zss zss.length) (hl : vs.length = zss.length) (ha : vs.Pairwise Away) : Inner w B vs (mkS k zss) :=
  ⟨by rw [mkS_length]; exact hl, fun i u zs hu hz => by
    have hi : i < zss.length := by have := (List.getElem?_eq_some_iff.1 hz).1; rwa [mkS_length] at this
    have h1 := h i u zss[i] hu (List.getElem?_eq_getElem hi)
    rw [if_pos hi] at h1
    rw [mkS_at k zss i _ (List.getElem?_eq_getElem hi)] at hz
    injection hz with hz
    rwa [hz] at h1, ha⟩
set_option maxHeartbeats 800000 in
/-- markIntSS at a list of rows of the call's own. -/
theorem markss_any (A : Option Addr) (n c B k : Nat) (K : Int) (hK : K = (k : Int)) (zss : List (List Int)) (w : World) (h : IntsS w B (.slice A n c) zss) (hB : B ≤ w.heap.size) (hkn : k + tot zss ≤ 1099511627776) (hn : n ≤ 1048576) :
    Calls Try.prog 10 #[.slice A n c, .int .i64 K] w fun e w' => e = .returned (.int .i64 (K + (tot zss : Int))) ∧ IntsS w' B (.slice A n c) (mkS k zss) ∧ Below B w w' := by
  subst hK
  have hl := h.len
  obtain ⟨vs, hown, hin⟩ := h
  rw [hl] at hown
  have HA := hide hin.away
  have HV := hide hin.len
  have HL := hide hl
  have hh := hide (Half.start k hin)
  clear hin hl
  go_enter Try.func10, Try.ntmps10
  go_wp2
  go_loopw [1, 5] (fun kv i wr => ∃ j : Nat, j ≤ n ∧ kv = .int .i64 ((k + tot (zss.take j) : Nat) : Int) ∧ i = .int .i64 j ∧ Below B w wr ∧ wr.ownsRow B 24 1 (.slice A n c) n vs ∧ Hid (Half wr B vs k zss j)) (fun _ i _ => n - (intOf i).toNat)
  case atStart => exact ⟨0, Nat.zero_le _, rfl, rfl, Below.refl _ _, hown, hh⟩
  case round =>
    obtain ⟨j, hj, rfl, rfl, hb, hown', hhf⟩ := hrel
    clear hown hh
    have htt := tot_take zss j
    by_cases hlt : j < n
    · obtain ⟨ad, u, rfl, _, hu, hc⟩ := (Reads.of_own_at hown').at_ hlt
      obtain ⟨zs, hz⟩ : ∃ zs, zss[j]? = some zs := ⟨_, List.getElem?_eq_getElem (by rw [unhide HL]; exact hlt)⟩
      have hts := tot_step hz
      have htt2 := tot_take zss (j + 1)
      have hI := unhide hhf j u zs hu hz
      rw [if_neg (by omega)] at hI
      obtain ⟨A1, c1, rfl⟩ := hI.slice
      have H1 := hide (marki_at A1 zs.length c1 B (k + tot (zss.take j)) _ rfl zs wr hI (by omega))
      have hne := rows_apart hown' hI
      have hsi := hI.since
      have HU := hide hu
      have HZ := hide hz
      have HT := hide hts
      obtain ⟨t, ht⟩ : ∃ t, t = tot (zss.take j) := ⟨_, rfl⟩
      rw [← ht] at H1 HT htt ⊢
      have HTT := hide ht
      have hs0 : k + t + zs.length ≤ 1099511627776 := by have h1 := unhide HT; omega
      clear hu hz hts ht hI htt2
      go_wp2_with fail
      refine (unhide H1).mono ?_
      rintro e w2 ⟨rfl, hm, hg⟩
      have hb2 := below_row hb hg (Nat.le_trans hB hb.size) hsi
      have hown2 := World.ownsRow.kept hown' hg hne
      have hh2 := hide (Half.step (unhide hhf) (unhide HA) (unhide HU) (unhide HZ) (by rw [← unhide HTT]; exact hm) hg)
      clear H1 hown' hb hm hg hne hhf
      go_wp2
      go_roundw
      case rel => exact ⟨j + 1, by omega, by rw [unhide HT]; go_num, by go_num, hb2, hown2, hh2⟩
      case measure => simp [intOf]; omega
    · obtain rfl : n = j := by omega
      have e : zss.take n = zss := List.take_of_length_le (by rw [unhide HL]; exact Nat.le_refl _)
      rw [e]
      have hdn : Inner wr B vs (mkS k zss) := Half.done (by rw [unhide HL]; exact unhide hhf) (unhide HV) (unhide HA)
      have hI : IntsS wr B (.slice A n c) (mkS k zss) := ⟨vs, by rw [mkS_length, unhide HL]; exact hown', hdn⟩
      clear hown' hhf hdn e
      go_wp2
      go_ret
      exact ⟨ret_int (by omega), hI, hb⟩
end Go.Proofs.Ytknjgehcaadomaa
