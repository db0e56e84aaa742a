/-
  impl.parseWithin, by its contracts: the number whose numeral s is, within the bounds; else it panics.
-/
import Derived.Test.YtlepfeffbpoobaaDoorFmt
import Derived.Test.YtlepfeffbpoobaaDoorShelfA
import Derived.Test.YtlepfeffbpoobaaDoorNum
import Derived.Lib.AtoiErrMem
import Derived.Lib.AtoiAllCases
import Derived.Recover
import Derived.Defers
namespace Go.Proofs.YtlepfeffbpoobaaDoor
open Go.RowKit

theorem var_below' {P : Program} {w w' : World} {n : String} {cs : Array Value} (h : w.var? P n = some cs) (hb : Below w.heap.size w w') : w'.var? P n = some cs := by
  unfold World.var? at h ⊢
  cases hg : P.globalNamed n with
  | none => simp [hg] at h
  | some g =>
    simp only [hg, Option.bind_some] at h ⊢
    have hlt : g < w.heap.size := by
      rcases Nat.lt_or_ge g w.heap.size with hl | hl
      · exact hl
      · rw [Array.getElem?_eq_none hl] at h; cases h
    rw [hb.block g hlt]
    exact h

theorem toList_data (s : ByteArray) : s.toList = s.data.toList := ByteArray.toList_eq s
/-- What the parsers ask of the variables of Go's library. -/
structure Vars (w : World) : Prop where
  tab : Lib.TabIs Tryd.prog w "internal/strconv.uint64pow10" .u64 Lib.pow10Tab
  syn : ∃ tp p, w.var? Tryd.prog "strconv.ErrSyntax" = some #[.iface tp p]
  rng : ∃ tp p, w.var? Tryd.prog "strconv.ErrRange" = some #[.iface tp p]
theorem Vars.below {w w' : World} (h : Vars w) (hb : Below w.heap.size w w') : Vars w' :=
  ⟨var_below' h.tab hb, by obtain ⟨a, b, e⟩ := h.syn; exact ⟨a, b, var_below' e hb⟩, by obtain ⟨a, b, e⟩ := h.rng; exact ⟨a, b, var_below' e hb⟩⟩

/-- The library's Atoi, both ends in one word. -/
def AtoiEnds (w : World) (l : List UInt8) (e : Ending) (w' : World) : Prop :=
  Below w.heap.size w w' ∧ ((∃ v : Int, Lib.atoiAll l = .ok v ∧ e = .returned (.tuple #[.int .i64 v, .nilIface])) ∨ ((∀ v, Lib.atoiAll l ≠ .ok v) ∧ ∃ (x : Int) (N : Nat), e = .returned (.tuple #[.int .i64 x, .iface 77 (.pointer (some ⟨N, 0, none⟩))])))

theorem atoi_any (s : ByteArray) (hs : s.size ≤ 281474976710656) (w : World) (hv : Vars w) :
    Calls Tryd.prog 40 #[.string s] w (AtoiEnds w s.data.toList) := by
  rcases h : Lib.atoiAll s.data.toList with v | _ | _
  · refine (Any.strconv_Atoi_ok Tryd.laysC172 s (by omega) v h w).mono fun e w' ⟨he, hw⟩ => ⟨?_, Or.inl ⟨v, h, he⟩⟩
    rcases hw with rfl | ⟨t, rfl⟩
    · exact Below.refl _ _
    · exact Lib.bytesWorld_below _ _ _
  · obtain ⟨tp, p, hvar⟩ := hv.syn
    exact (Any.strconv_Atoi_syntax_var Tryd.laysC172 s hs h tp p w hvar).mono fun e w' ⟨N, he, _, _, hb⟩ => ⟨hb, Or.inr ⟨fun v hh => (by rw [h] at hh; cases hh), _, N, he⟩⟩
  · obtain ⟨tp, p, hvar⟩ := hv.rng
    exact (Any.strconv_Atoi_range_var Tryd.laysC172 s hs h tp p w hvar).mono fun e w' ⟨N, he, _, _, hb⟩ => ⟨hb, Or.inr ⟨fun v hh => (by rw [h] at hh; cases hh), _, N, he⟩⟩

def PwEnds (w : World) (r : Option Int) (e : Ending) (w' : World) : Prop :=
  Below w.heap.size w w' ∧ (match r with
    | some v => e = .returned (.int .i64 v)
    | none => ∃ u pv, e = .panicked [{ v := .iface u pv, recovered := false }])

set_option maxRecDepth 100000 in
set_option maxHeartbeats 800000 in
theorem pw_any (s : ByteArray) (hs : s.size ≤ 281474976710656) (low high : Int) (w : World) (hv : Vars w) :
    Calls Tryd.prog 29 #[.string s, .int .i64 low, .int .i64 high] w (PwEnds w (within low high s.data.toList)) := by
  have H := hide (atoi_any s hs w hv)
  have HV := hide hv
  obtain ⟨R, hR⟩ : ∃ R, R = within low high s.data.toList := ⟨_, rfl⟩
  rw [← hR]
  have HR := hide hR
  clear hR hv hs
  go_enter Tryd.func29, Tryd.ntmps29
  go_wp2_with fail
  refine (unhide H).mono ?_
  rintro e w' ⟨hb, ⟨v, hok, rfl⟩ | ⟨hbad, x, N, rfl⟩⟩
  · obtain ⟨hv0, hv1⟩ := Lib.atoiAll_bounds hok
    have HV' := hide ((unhide HV).below hb)
    have HO := hide (show R = if low ≤ v ∧ v ≤ high ∧ Lib.itoa v = s.data.toList then some v else none by rw [unhide HR, within, hok])
    have HF := hide (ifmt_any v hv0 hv1 w' (unhide HV').tab)
    clear hok H HR
    by_cases hlo : v < low
    · have hR : R = none := by rw [unhide HO, if_neg (by omega)]
      clear HO
      subst hR
      go_wp2
      exact ⟨rfl, hb, _, _, rfl⟩
    · by_cases hhi : high < v
      · have hR : R = none := by rw [unhide HO, if_neg (by omega)]
        clear HO
        subst hR
        go_wp2
        exact ⟨rfl, hb, _, _, rfl⟩
      · go_wp2_with fail
        refine (unhide HF).mono ?_
        rintro e w2 ⟨rfl, hb2⟩
        have hb3 := below_after hb hb2
        clear hb hb2
        go_wp2
        · have h : (v < low ∨ high < v) ∨ (!Lib.itoa v == s.toList) = true := by assumption
          have hR : R = none := by
            rw [unhide HO, if_neg]
            rintro ⟨a, b, c⟩
            rcases h with h | h
            · omega
            · rw [toList_data, c] at h; simp at h
          clear HO
          subst hR
          exact ⟨rfl, hb3, _, _, rfl⟩
        · have h : (low ≤ v ∧ v ≤ high) ∧ (!Lib.itoa v == s.toList) = false := by assumption
          have hR : R = some v := by
            rw [unhide HO, if_pos]
            refine ⟨h.1.1, h.1.2, ?_⟩
            have h2 := h.2
            rw [toList_data] at h2
            simpa using h2
          clear HO
          subst hR
          go_ret
          exact ⟨hb3, rfl⟩
  · have hR : R = none := by
      rw [unhide HR, within]
      split
      · rename_i v hv; exact absurd hv (hbad v)
      · rfl
    clear hbad H HR
    subst hR
    go_wp2
    exact ⟨rfl, hb, _, _, rfl⟩

def pairOf (r : Option Int) : Value := match r with | some v => .tuple #[.int .i64 v, .bool true] | none => .tuple #[.int .i64 0, .bool false]

theorem catchParseInt (u : TypeId) (pv : Value) (older : List PanicEntry) (w : World) :
    CallsD Tryd.prog 28 #[] (.panicking ({ v := .iface u pv, recovered := false } :: older)) w fun e u' w' =>
      e = .returned (.tuple #[]) ∧ u' = .panicking ({ v := .iface u pv, recovered := true } :: older) ∧ w' = w := by
  refine callsD_of_wpS Tryd.func28 rfl fun c₀ cs hu => ?_
  apply wpS_region
  simp [wpOpsS, go_sem, recoverD, hu, Tryd.ntmps28, bodyPostS, results, Tryd.results28]
theorem idleParseInt (w : World) :
    CallsD Tryd.prog 28 #[] .returning w fun e u' w' => e = .returned (.tuple #[]) ∧ u' = .returning ∧ w' = w := by
  refine callsD_of_wpS Tryd.func28 rfl fun c₀ cs hu => ?_
  apply wpS_region
  simp [wpOpsS, go_sem, recoverD, hu, Tryd.ntmps28, bodyPostS, results, Tryd.results28]
  cases c₀
  simp_all

set_option maxRecDepth 100000 in
theorem iParseInt_any (s : ByteArray) (hs : s.size ≤ 281474976710656) (w : World) (hv : Vars w) :
    Calls Tryd.prog 12 #[.string s] w fun e w' => e = .returned (pairOf (within (-999999999999) 999999999999 s.data.toList)) ∧ Below w.heap.size w w' := by
  have H := hide (pw_any s hs (-999999999999) 999999999999 w hv)
  obtain ⟨R, hR⟩ : ∃ R, R = within (-999999999999) 999999999999 s.data.toList := ⟨_, rfl⟩
  rw [← hR] at H ⊢
  clear hv hs hR
  go_enter_defers Tryd.func12, Tryd.ntmps12
  go_wp2_with fail
  refine (unhide H).mono ?_
  rintro e w' ⟨hb, hr⟩
  clear H
  rcases R with _ | v
  · obtain ⟨u, pv, rfl⟩ := hr
    go_wp2
    refine leaves_cons (f := 28) (args := #[]) (by simp) (by simp [go_sem]) ?_
    refine (catchParseInt u pv [] _).mono ?_
    rintro e u' w'' ⟨rfl, rfl, rfl⟩
    simp [Leaves, settle, results, Tryd.results12, go_sem, pairOf, hb]
  · obtain rfl := hr
    go_wp2
    refine leaves_cons (f := 28) (args := #[]) (by simp) (by simp [go_sem]) ?_
    refine (idleParseInt _).mono ?_
    rintro e u' w'' ⟨rfl, rfl, rfl⟩
    simp [Leaves, settle, results, Tryd.results12, go_sem, pairOf, hb]

theorem catchParseNumber (u : TypeId) (pv : Value) (older : List PanicEntry) (w : World) :
    CallsD Tryd.prog 32 #[] (.panicking ({ v := .iface u pv, recovered := false } :: older)) w fun e u' w' =>
      e = .returned (.tuple #[]) ∧ u' = .panicking ({ v := .iface u pv, recovered := true } :: older) ∧ w' = w := by
  refine callsD_of_wpS Tryd.func32 rfl fun c₀ cs hu => ?_
  apply wpS_region
  simp [wpOpsS, go_sem, recoverD, hu, Tryd.ntmps32, bodyPostS, results, Tryd.results32]
theorem idleParseNumber (w : World) :
    CallsD Tryd.prog 32 #[] .returning w fun e u' w' => e = .returned (.tuple #[]) ∧ u' = .returning ∧ w' = w := by
  refine callsD_of_wpS Tryd.func32 rfl fun c₀ cs hu => ?_
  apply wpS_region
  simp [wpOpsS, go_sem, recoverD, hu, Tryd.ntmps32, bodyPostS, results, Tryd.results32]
  cases c₀
  simp_all

set_option maxRecDepth 100000 in
theorem iParseNumber_any (s : ByteArray) (hs : s.size ≤ 281474976710656) (w : World) (hv : Vars w) :
    Calls Tryd.prog 15 #[.string s] w fun e w' => e = .returned (pairOf (within (0) 999999 s.data.toList)) ∧ Below w.heap.size w w' := by
  have H := hide (pw_any s hs (0) 999999 w hv)
  obtain ⟨R, hR⟩ : ∃ R, R = within (0) 999999 s.data.toList := ⟨_, rfl⟩
  rw [← hR] at H ⊢
  clear hv hs hR
  go_enter_defers Tryd.func15, Tryd.ntmps15
  go_wp2_with fail
  refine (unhide H).mono ?_
  rintro e w' ⟨hb, hr⟩
  clear H
  rcases R with _ | v
  · obtain ⟨u, pv, rfl⟩ := hr
    go_wp2
    refine leaves_cons (f := 32) (args := #[]) (by simp) (by simp [go_sem]) ?_
    refine (catchParseNumber u pv [] _).mono ?_
    rintro e u' w'' ⟨rfl, rfl, rfl⟩
    simp [Leaves, settle, results, Tryd.results15, go_sem, pairOf, hb]
  · obtain rfl := hr
    go_wp2
    refine leaves_cons (f := 32) (args := #[]) (by simp) (by simp [go_sem]) ?_
    refine (idleParseNumber _).mono ?_
    rintro e u' w'' ⟨rfl, rfl, rfl⟩
    simp [Leaves, settle, results, Tryd.results15, go_sem, pairOf, hb]
end Go.Proofs.YtlepfeffbpoobaaDoor
