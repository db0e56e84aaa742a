/-
  For every list of strings and every separator, the law FnExactJoin answers true and leaves its arguments as they were.
  Conditions: none beyond the row's own (what is read lies within the row's reach).
-/
import Derived.Test.YtlepfeffbpoobaaSJoin
import Derived.Test.YtlepfeffbpoobaaShelf
import Derived.Test.YtlepfeffbpoobaaEnd
namespace Go.Proofs.Ytlepfeffbpoobaa.fnExactJoin
open Go.ChangeShapes Go.WideShapes Go.ChangeAt Go.RowKit

def total (ss : List ByteArray) : Nat := (ss.map ByteArray.size).sum

theorem total_append (a b : List ByteArray) : total (a ++ b) = total a + total b := by unfold total; rw [List.map_append, List.sum_append]
theorem szGo_total : ∀ (ss : List ByteArray) (l : Int), 0 ≤ l → ¬ szGo l ss < 0 → (total ss : Int) ≤ l
  | [], l, h, _ => by simpa [total] using h
  | s :: r, l, h, hn => by
    rw [szGo] at hn
    by_cases hs : l - s.size < 0
    · rw [if_pos hs] at hn; omega
    · rw [if_neg hs] at hn
      have := szGo_total r (l - s.size) (by omega) hn
      simp only [total, List.map_cons, List.sum_cons] at this ⊢
      omega

theorem jn_le (sep : ByteArray) (ss : List ByteArray) : ∀ k, k ≤ ss.length → (jn sep ss k).length ≤ k * sep.size + total (ss.take k) := by
  intro k
  induction k with
  | zero => intro _; simp [jn]
  | succ k ih =>
    intro hk
    have hs : ss[k]? = some ss[k] := List.getElem?_eq_getElem (by omega)
    rw [jn_length sep ss k _ hs, List.length_append, List.length_append, size_list, List.take_add_one, hs]
    have h1 := ih (by omega)
    have h2 : total (ss.take k ++ (some ss[k]).toList) = total (ss.take k) + ss[k].size := by rw [total_append]; simp [total]
    rw [h2, Nat.add_mul]
    have h3 : (if 0 < k then sep.data.toList else []).length ≤ sep.size := by
      by_cases h0 : 0 < k
      · rw [if_pos h0, size_list]; exact Nat.le_refl _
      · rw [if_neg h0]; exact Nat.zero_le _
    omega
theorem total_take (ss : List ByteArray) (k : Nat) : total (ss.take k) ≤ total ss := by
  have h : total ss = total (ss.take k) + total (ss.drop k) := by
    rw [← total_append, List.take_append_drop]
  omega
theorem jn_bound (sep : ByteArray) (ss : List ByteArray) (hn : ss.length ≤ 1048576) (hs : sep.size ≤ 1048576) (ht : total ss ≤ 1048576) (k : Nat) (hk : k ≤ ss.length) : (jn sep ss k).length ≤ 4398046511104 := by
  have h1 := jn_le sep ss k hk
  have h2 := total_take ss k
  have h3 : k * sep.size ≤ 1048576 * 1048576 := Nat.mul_le_mul (by omega) hs
  omega

/-- impl.Join at a row of the call's own. -/
theorem ijoin_own (g n : Nat) (ss : List ByteArray) (sep : ByteArray) (w : World) (base : Nat) (hown : w.ownsRow base 9 1 (.slice (some ⟨g, 0, none⟩) n n) n (ss.map Value.string)) (hn : n ≤ 1048576)
    (hlen : (jn sep ss n).length ≤ 4398046511104) :
    Calls Try.prog 7 #[.slice (some ⟨g, 0, none⟩) n n, .string sep] w fun e w' => e = .returned (.string ⟨(jn sep ss n).toArray⟩) ∧ Below w.heap.size w w' := by
  have hl : ss.length = n := by simpa using hown.1
  subst hl
  have hcells : ∀ (j : Nat) x, ss[j]? = some x → w.cell? ⟨g, 0 + j, none⟩ = some (.string x) := fun j x hx => by
    have := hown.cells (g := g) rfl j (.string x) (by rw [List.getElem?_map, hx]; rfl)
    rw [← this]
    congr 1
    unfold Addr.add
    split <;> simp_all
  have hj := jn_eq sep ss ss.length (Nat.le_refl _)
  rw [List.take_length] at hj
  rw [hj] at hlen
  have H := hide (Try.strings_Join g 0 ss.length ss sep w hcells (hown.lt g rfl).2 (by omega) (Nat.le_refl _) (by omega))
  rw [← hj] at H
  clear hj hcells hown hlen hn
  go_enter Try.func7, Try.ntmps7
  go_wp2_with fail
  refine (unhide H).mono ?_
  rintro e w' ⟨rfl, hb⟩
  go_wp2
  go_ret
  exact ⟨rfl, hb⟩

theorem cellsString : Try.prog.cellsOf 9 = 1 := by kernel_rfl
theorem params_ok : ∀ t ∈ (#[22, 9] : Array TypeId).toList, Try.prog.readableRec t = true ∧ t < Try.prog.types.size := by
  intro t ht
  simp only [List.mem_cons, List.not_mem_nil, or_false] at ht
  rcases ht with rfl | rfl
  · exact ⟨by kernel_rfl, of_decide_eq_true (by kernel_rfl)⟩
  · exact ⟨by kernel_rfl, of_decide_eq_true (by kernel_rfl)⟩

set_option maxHeartbeats 800000 in
theorem walk (A : Option Addr) (n c : Nat) (ss : List ByteArray) (sep : ByteArray) (w : World) (hr : Reads w w.heap.size A n (ss.map Value.string)) (hn : n ≤ maxLen) (hss : ∀ s ∈ ss, s.size ≤ maxLen) (hsep : sep.size ≤ maxLen) :
    Calls Try.prog 3 #[.slice A n c, .string sep] w fun e w' => e = .returned (.bool true) ∧ Below w.heap.size w w' := by
  by_cases hbig : sep.size ≤ 1048576
  · have hln : ss.length = n := by simpa using hr.1
    have H4 := hide (sz_any A n c _ ss 1048576 w hr hn hss (by omega) (by omega))
    by_cases hneg : (if (1048576 : Int) - n < 0 then (-1 : Int) else szGo (1048576 - n) ss) < 0
    · obtain ⟨r, hr'⟩ : ∃ r : Int, r = (if (1048576 : Int) - n < 0 then (-1 : Int) else szGo (1048576 - n) ss) := ⟨_, rfl⟩
      rw [← hr'] at H4 hneg
      clear hr' hr hn hss hsep hln
      go_enter Try.func3, Try.ntmps3
      go_wp2_with fail
      refine (unhide H4).mono ?_
      rintro e w' ⟨rfl, rfl⟩
      go_wp2
      go_ret
      exact ⟨rfl, Below.refl _ _⟩
    · have hn1 : n ≤ 1048576 := by
        by_cases h0 : (1048576 : Int) - n < 0
        · rw [if_pos h0] at hneg; omega
        · omega
      have hs0 : ¬ szGo (1048576 - n) ss < 0 := by rwa [if_neg (by omega)] at hneg
      have htot := szGo_total ss (1048576 - n) (by omega) hs0
      have hJ := fun k hk => jn_bound sep ss (by omega) hbig (by omega) k hk
      rw [if_neg (by omega)] at H4
      obtain ⟨r, hr'⟩ : ∃ r : Int, r = szGo (1048576 - n) ss := ⟨_, rfl⟩
      rw [← hr'] at H4 hs0
      have hs0' : 0 ≤ r := by omega
      rw [hln] at hJ
      have HJ := hide hJ
      clear hr' hs0 hneg htot hss hsep hln hJ
      go_enter Try.func3, Try.ntmps3
      go_wp2_with fail
      refine (unhide H4).mono ?_
      rintro e w' ⟨rfl, rfl⟩
      go_wp2_with fail
      refine (tos_any A n c _ ss _ hr (Nat.le_refl _) (by omega)).mono ?_
      rintro e w1 ⟨rfl, hown1, hb1⟩
      go_wp2_with fail
      refine (sjoin_any _ n n _ ss sep _ (Reads.of_own_at hown1) (Nat.le_refl _) (by omega) (unhide HJ)).mono ?_
      rintro e w2 ⟨rfl, hb2⟩
      have hb2' := below_after hb1 hb2
      clear hown1 hb1 hb2
      go_wp2_with fail
      refine (tos_any A n c _ ss _ ((hr.below hb2')) hb2'.size (by omega)).mono ?_
      rintro e w3 ⟨rfl, hown3, hb3⟩
      have hb3' := below_after hb2' hb3
      clear hb3
      go_wp2_with fail
      refine (ijoin_own _ n ss sep _ _ hown3 hn1 (unhide HJ n (Nat.le_refl _))).mono ?_
      rintro e w4 ⟨rfl, hb4⟩
      have hb4' := below_after hb3' hb4
      have hr4 := (Reads.of_own_at hown3).below hb4
      clear hown3
      go_wp2_with fail
      refine (tos_any A n c _ ss _ ((hr.below hb4')) hb4'.size (by omega)).mono ?_
      rintro e w5 ⟨rfl, hown5, hb5⟩
      have hb5' := below_after hb4' hb5
      have hr5 := (hr4.more hb4.size).below hb5
      clear hb5 hb4'
      go_wp2_with fail
      refine (eqs_any _ _ n n n n _ _ ss ss _ hr5 (Reads.of_own_at hown5) (by unfold maxLen; omega) (by unfold maxLen; omega) rfl).mono ?_
      rintro e w6 ⟨rfl, hd⟩
      have hb6 := below_after hb5' (hd.below _)
      clear hb5' hd hr5 hr4 hown5
      go_wp2
      go_ret
      exact ⟨rfl, hb6⟩
  · clear hn hss hr
    have hbig' : 1048576 < sep.size := by omega
    unfold maxLen at hsep
    go_enter Try.func3, Try.ntmps3
    go_wp2
    go_ret
    exact ⟨rfl, Below.refl _ _⟩

/-- WHAT THE WALK GIVES, FOR EVERY ARGUMENT. -/
theorem contract (H : Type) (enc : TypeId × Value → H) (W : World) (base : Nat) (args : Array Value) (ds gs : List (DataW H)) (before : List MemPlace)
    (hval : ∀ (j : Nat) t v, Try.f3.params[j]? = some t → args[j]? = some v → Value.okWide Try.prog W .any base t v)
    (hW : DataW.Whole enc Try.prog Try.f3.params.toList Rows.fnExactJoinSpec.vars false W args.toList ds gs before) :
    Calls Try.prog 3 args W fun e W' => ∃ v, e = .returned v ∧ Rows.fnExactJoinSpec.post enc Try.prog Try.f3 false true false false W args v W' := by
  have hW' := hW
  obtain ⟨p, q, hA0, hV, rfl, hfz, hnd⟩ := hW
  have hA : DataW.TrodAll enc Try.prog W 0 (fun _ => true) true Try.f3.params.toList args.toList ds p := hA0
  rw [Try.params3] at hA hval
  obtain ⟨v0, v1, d0, d1, p0, p1, rfl, rfl, rfl, h0, h1⟩ := trodAll_two hA
  obtain ⟨rfl, rfl⟩ := trodVars_none hV
  obtain ⟨sep, rfl, rfl, rfl, hsep⟩ := Go.ChangeMaps.open_string Try.underlying9 (hval 1 9 v1 rfl rfl) h1
  obtain ⟨A, n, c, ss, rfl, hr, hn, hss⟩ := open_strs_reads Try.underlying22 Try.underlying9 cellsString (hval 0 22 v0 rfl rfl) h0 (fun x hx => by simpa using hW'.lt x (by simp [hx]))
  refine (walk A n c ss sep W hr hn hss hsep).mono fun e W' ⟨he, hb⟩ => ?_
  subst he
  exact ⟨_, rfl, law_end laidOut (by rw [Try.params3]; exact params_ok) Try.underlying4 rfl rfl hW' rfl hb⟩

set_option maxRecDepth 100000 in
theorem lifted (os : Os) (started : os.Started) (H : Type) (enc : TypeId × Value → H) :
    ReturnsInHanded {} Try.checked os 3 .any (Rows.fnExactJoinSpec.pre6 enc Try.prog Try.f3 Rows.fnExactJoinRow.domain false) (Rows.fnExactJoinSpec.post enc Try.prog Try.f3 false true false false) := by
  refine returnsInHanded_of_change (C := Try.checked) own started (by kernel_rfl) Try.func3
    (ChangeSpec.witness6 (enc := enc) (C := Try.checked) false ⟨#[], #[.slice none 0 0, .string .empty], []⟩ 8 (by kernel_rfl) (by kernel_rfl) (by kernel_rfl) (by kernel_rfl)) ?_
  intro W base args ds gs before hval hW _ _
  exact contract H enc W base args ds gs before hval hW

theorem proved : Rows.FnExactJoinSaid :=
  OpenClaim.holds_of_wide 3 Try.f3 rfl rfl rfl rfl rfl rfl rfl ⟨rfl, rfl, rfl, rfl, rfl⟩ rfl rfl rfl rfl rfl (by kernel_rfl) Try.func3 (by kernel_rfl)
    (of_decide_eq_true (by kernel_rfl)) (by unfold Func.isWrapper; first | (rw [if_pos (by decide +kernel)]; kernel_rfl) | (rw [if_neg (by decide +kernel)]; exact ⟨rfl, rfl⟩))
    (fun os started H enc _ => lifted os started H enc)
end Go.Proofs.Ytlepfeffbpoobaa.fnExactJoin
