/-
  spec.l1Read, spec.ParseInt, spec.ParseNumber, by their contracts.
-/
import Derived.Test.YtlepfeffbpoobaaDoorParse
import Derived.Deep.DeepCutAuto
namespace Go.Proofs.YtlepfeffbpoobaaDoor
open Go.RowKit

/-- What l1Read does once the sign is off: R is the answer. -/
structure ReadFacts (s T : ByteArray) (ng : Bool) (most : Nat) (R : Option Int) : Prop where
  short : T.size < 1 ∨ most < T.size → R = none
  bad : Lib.decFrom 0 T.data.toList = none → R = none
  good : ∀ m : Nat, ¬ (T.size < 1 ∨ most < T.size) → Lib.decFrom 0 T.data.toList = some m → R = if Lib.itoa (if ng then -(m : Int) else m) = s.data.toList then some (if ng then -(m : Int) else m) else none

theorem facts_plain {s : ByteArray} {most : Nat} (h : s.data.toList.head? ≠ some 45) : ReadFacts s s false most (rd most s.data.toList) := by
  have e : s.data.toList.length = s.size := by rw [Array.length_toList]; rfl
  refine ⟨fun hl => ?_, fun hb => ?_, fun m hl hm => ?_⟩
  · rw [rd, if_neg h, rdMag, if_pos (by omega)]; rfl
  · rw [rd, if_neg h, rdMag, hb]; split <;> rfl
  · rw [rd, if_neg h, rdMag, if_neg (by omega), hm]; simp
theorem facts_minus {s T : ByteArray} {most : Nat} (h : s.data.toList.head? = some 45) (hT : T.data.toList = s.data.toList.tail) : ReadFacts s T true most (rd most s.data.toList) := by
  have e : T.data.toList.length = T.size := by rw [Array.length_toList]; rfl
  refine ⟨fun hl => ?_, fun hb => ?_, fun m hl hm => ?_⟩
  · rw [rd, if_pos h, rdMag, ← hT, if_pos (by omega)]; rfl
  · rw [rd, if_pos h, rdMag, ← hT, hb]; split <;> rfl
  · rw [rd, if_pos h, rdMag, ← hT, if_neg (by omega), hm]; simp

theorem list_at {T : ByteArray} {k : Nat} (h : k < T.size) : T.data.toList[k]? = some T[k] := by
  rw [List.getElem?_eq_getElem (by rw [Array.length_toList]; exact h)]; rfl
theorem dec_step {T : ByteArray} {k acc : Nat} (h : k < T.size) (hd : Lib.decFrom 0 (T.data.toList.take k) = some acc) (h0 : 48 ≤ T[k].toNat) (h1 : T[k].toNat ≤ 57) : Lib.decFrom 0 (T.data.toList.take (k + 1)) = some (acc * 10 + (T[k].toNat - 48)) :=
  Lib.decFrom_take _ k 0 acc T[k] _ hd (list_at h) (by unfold Lib.digitVal; rw [if_pos ⟨h0, h1⟩])
theorem dec_stop {T : ByteArray} {k : Nat} (h : k < T.size) (hb : T[k].toNat < 48 ∨ 57 < T[k].toNat) : Lib.decFrom 0 T.data.toList = none := by
  cases hd : Lib.decFrom 0 T.data.toList with
  | none => rfl
  | some n =>
    obtain ⟨m, hm⟩ := Lib.decFrom_prefix _ 0 n hd (k + 1)
    obtain ⟨x, hx⟩ := Lib.decFrom_prefix _ 0 n hd k
    rw [List.take_add_one, list_at h, decFrom_append _ _ 0 x hx] at hm
    simp only [Option.toList_some, Lib.decFrom, Lib.digitVal] at hm
    rw [if_neg (by omega)] at hm
    cases hm
theorem dec_bound {l : List UInt8} {k acc : Nat} (hd : Lib.decFrom 0 (l.take k) = some acc) (hk : k ≤ 12) : acc < 1000000000000 := by
  have h1 := Lib.decFrom_lt _ 0 acc hd
  have h2 : (l.take k).length ≤ 12 := by rw [List.length_take]; omega
  have h3 := Nat.pow_le_pow_right (n := 10) (by omega) h2
  have e : (10 : Nat) ^ 12 = 1000000000000 := by decide
  rw [e] at h3
  omega

set_option maxRecDepth 100000 in
set_option maxHeartbeats 1600000 in
/-- The way from the sign on. -/
theorem read_from (s T : ByteArray) (ng : Bool) (most : Nat) (hm : most ≤ 12) (R : Option Int) (hs : s.size ≤ 9223372036854775807) (hT : T.size ≤ 9223372036854775807) (hF : ReadFacts s T ng most R) (w : World)
    (hway : (ng = false ∧ s.size = 0 ∧ T = s) ∨ (ng = false ∧ T = s ∧ ∃ h : 0 < s.size, s[0].toNat ≠ 45) ∨ (ng = true ∧ T = s.extract 1 s.size ∧ ∃ h : 0 < s.size, s[0].toNat = 45)) :
    Calls Tryd.prog 33 #[.string s, .int .i64 most] w fun e w' => e = .returned (pairOf R) ∧ Below w.heap.size w w' := by
  have HF := hide hF
  have HW := hide hway
  clear hF hway
  go_enter Tryd.func33, Tryd.ntmps33
  go_upto_region 1 with (fail)
  go_cut [6] (fun b wc => b = .bool ng ∧ wc = w)
  case first =>
    rcases unhide HW with ⟨rfl, h0, -⟩ | ⟨rfl, -, h0, h1⟩ | ⟨rfl, -, h0, h1⟩
    · have h0' : ¬ 0 < s.size := by omega
      go_wp2
      go_meet
      exact ⟨rfl, rfl⟩
    · have h1' : ((s[0].toNat : Int) == 45) = false := by rw [beq_eq_false_iff_ne]; omega
      clear h1
      go_wp2
      go_meet
      exact ⟨rfl, rfl⟩
    · have h1' : ((s[0].toNat : Int) == 45) = true := by rw [beq_iff_eq]; omega
      clear h1
      go_wp2
      go_meet
      exact ⟨rfl, rfl⟩
  case rest =>
    obtain ⟨rfl, rfl⟩ := hcut
    go_upto_if 19 with (fail)
    go_cut [7] (fun t wd => t = .string T ∧ wd = wc)
    case first =>
      rcases unhide HW with ⟨rfl, h0, hTs⟩ | ⟨rfl, hTs, -⟩ | ⟨rfl, hTs, h0, -⟩
      · subst hTs
        go_wp2
        go_meet
        exact ⟨rfl, rfl⟩
      · subst hTs
        go_wp2
        go_meet
        exact ⟨rfl, rfl⟩
      · have h1s : 1 ≤ s.size := h0
        subst hTs
        go_wp2
        go_meet
        exact ⟨rfl, rfl⟩
    case rest =>
      obtain ⟨rfl, rfl⟩ := hcut
      clear HW
      by_cases hsh : T.size < 1 ∨ most < T.size
      · obtain rfl := (unhide HF).short hsh
        clear HF
        go_wp2
        all_goals go_ret2
        all_goals exact ⟨rfl, Below.refl _ _⟩
      · have hge : ¬ T.size < 1 := by omega
        have hle : T.size ≤ most := by omega
        have hFB := (unhide HF).bad
        have hFG := fun m => (unhide HF).good m hsh
        have HB := hide hFB
        have HG := hide hFG
        clear HF hFB hFG hsh
        go_wp2
        go_loop [8, 9] (fun nv i => ∃ k acc : Nat, k ≤ T.size ∧ i = .int .i64 k ∧ nv = .int .i64 acc ∧ Hid (Lib.decFrom 0 (T.data.toList.take k) = some acc)) (fun _ i => T.size - (intOf i).toNat)
        case atStart => exact ⟨0, 0, Nat.zero_le _, rfl, rfl, rfl⟩
        case round =>
          obtain ⟨k, acc, hk, rfl, rfl, hd⟩ := hrel
          have hacc := dec_bound (unhide hd) (by omega)
          by_cases hlt : k < T.size
          · by_cases hbad : T[k].toNat < 48 ∨ 57 < T[k].toNat
            · obtain rfl := unhide HB (dec_stop hlt hbad)
              clear HB HG hd
              rcases hbad with hb | hb
              · have hb' : (T[k].toNat : Int) < 48 := by omega
                clear hb
                go_wp2
                go_ret2
                exact ⟨rfl, Below.refl _ _⟩
              · have hb' : (57 : Int) < T[k].toNat := by omega
                have hb2 : ¬ (T[k].toNat : Int) < 48 := by omega
                clear hb
                go_wp2
                go_ret2
                exact ⟨rfl, Below.refl _ _⟩
            · have hst := hide (dec_step hlt (unhide hd) (by omega) (by omega))
              have hb1 : ¬ (T[k].toNat : Int) < 48 := by omega
              have hb2 : ¬ (57 : Int) < T[k].toNat := by omega
              have hb3 : (48 : Int) ≤ T[k].toNat := by omega
              have hb4 : (T[k].toNat : Int) ≤ 57 := by omega
              clear hd hbad
              go_wp2
              go_round
              case rel => exact ⟨k + 1, acc * 10 + (T[k].toNat - 48), by omega, by go_num, by go_num, hst⟩
              case measure => simp [intOf]; omega
          · obtain rfl : T.size = k := by omega
            have hdT : Lib.decFrom 0 T.data.toList = some acc := by
              have h := unhide hd
              rwa [List.take_of_length_le (by rw [Array.length_toList]; exact Nat.le_refl _)] at h
            have hR := unhide HG acc hdT
            clear HB HG hd hdT
            cases ng
            · simp only [Bool.false_eq_true, if_false] at hR
              have HR := hide hR
              clear hR
              have HC := hide (sfmt_any ((acc : Int)) (by omega) (by omega))
              go_wp2_with fail
              refine (unhide HC _).mono ?_
              rintro e w2 ⟨rfl, hb⟩
              clear HC
              go_wp2
              · have hne : (!Lib.itoa ((acc : Int)) == s.toList) = true := by assumption
                have hR : R = none := by
                  rw [unhide HR, if_neg]
                  intro h
                  rw [toList_data, h] at hne
                  simp at hne
                subst hR
                go_ret2
                exact ⟨rfl, hb⟩
              · have heq : (!Lib.itoa ((acc : Int)) == s.toList) = false := by assumption
                have hR : R = some ((acc : Int)) := by
                  rw [unhide HR, if_pos]
                  rw [toList_data] at heq
                  simpa using heq
                subst hR
                go_ret2
                exact ⟨rfl, hb⟩
            · simp only [if_true] at hR
              have HR := hide hR
              clear hR
              have HC := hide (sfmt_any (-(acc : Int)) (by omega) (by omega))
              go_wp2_with fail
              refine (unhide HC _).mono ?_
              rintro e w2 ⟨rfl, hb⟩
              clear HC
              go_wp2
              · have hne : (!Lib.itoa (-(acc : Int)) == s.toList) = true := by assumption
                have hR : R = none := by
                  rw [unhide HR, if_neg]
                  intro h
                  rw [toList_data, h] at hne
                  simp at hne
                subst hR
                go_ret2
                exact ⟨rfl, hb⟩
              · have heq : (!Lib.itoa (-(acc : Int)) == s.toList) = false := by assumption
                have hR : R = some (-(acc : Int)) := by
                  rw [unhide HR, if_pos]
                  rw [toList_data] at heq
                  simpa using heq
                subst hR
                go_ret2
                exact ⟨rfl, hb⟩

theorem read_any (s : ByteArray) (most : Nat) (hm : most ≤ 12) (hs : s.size ≤ 9223372036854775807) (w : World) :
    Calls Tryd.prog 33 #[.string s, .int .i64 most] w fun e w' => e = .returned (pairOf (rd most s.data.toList)) ∧ Below w.heap.size w w' := by
  have e : s.data.toList.length = s.size := by rw [Array.length_toList]; rfl
  by_cases h0 : 0 < s.size
  · have hh : s.data.toList.head? = some s[0] := by rw [List.head?_eq_getElem?]; exact list_at h0
    by_cases h45 : s[0].toNat = 45
    · have hb : s[0] = 45 := UInt8.toNat_inj.1 h45
      refine read_from s (s.extract 1 s.size) true most hm _ hs ?_ (facts_minus (by rw [hh, hb]) ?_) w (Or.inr (Or.inr ⟨rfl, rfl, h0, h45⟩))
      · rw [ByteArray.size_extract]; omega
      · rw [ByteArray.data_extract, Array.toList_extract, List.extract_eq_take_drop]
        rw [List.take_of_length_le (by simp), List.drop_one]
    · exact read_from s s false most hm _ hs hs (facts_plain (by rw [hh]; intro h; exact h45 (by rw [Option.some.inj h]; rfl))) w (Or.inr (Or.inl ⟨rfl, rfl, h0, h45⟩))
  · refine read_from s s false most hm _ hs hs (facts_plain ?_) w (Or.inl ⟨rfl, by omega, rfl⟩)
    have : s.data.toList = [] := List.eq_nil_of_length_eq_zero (by omega)
    rw [this]; simp

/-- spec.ParseInt. -/
theorem sParseInt_any (s : ByteArray) (hs : s.size ≤ 9223372036854775807) (w : World) :
    Calls Tryd.prog 21 #[.string s] w fun e w' => e = .returned (pairOf (rd 12 s.data.toList)) ∧ Below w.heap.size w w' := by
  have H := hide (read_any s 12 (by omega) hs w)
  obtain ⟨R, hR⟩ : ∃ R, R = rd 12 s.data.toList := ⟨_, rfl⟩
  rw [← hR] at H ⊢
  clear hR hs
  go_enter Tryd.func21, Tryd.ntmps21
  go_wp2_with fail
  refine (unhide H).mono ?_
  rintro e w' ⟨rfl, hb⟩
  clear H
  rcases R with _ | v
  · simp only [pairOf]
    go_wp2
    go_ret2
    exact ⟨rfl, hb⟩
  · simp only [pairOf]
    go_wp2
    go_ret2
    exact ⟨rfl, hb⟩

/-- spec.ParseNumber. -/
theorem sParseNumber_any (s : ByteArray) (hs : s.size ≤ 9223372036854775807) (w : World) :
    Calls Tryd.prog 16 #[.string s] w fun e w' => e = .returned (pairOf (rdNumber s.data.toList)) ∧ Below w.heap.size w w' := by
  have H := hide (read_any s 6 (by omega) hs w)
  unfold rdNumber
  obtain ⟨R, hR⟩ : ∃ R, R = rd 6 s.data.toList := ⟨_, rfl⟩
  rw [← hR] at H ⊢
  clear hR hs
  go_enter Tryd.func16, Tryd.ntmps16
  go_wp2_with fail
  refine (unhide H).mono ?_
  rintro e w' ⟨rfl, hb⟩
  clear H
  rcases R with _ | v
  · simp only [pairOf]
    go_wp2
    go_ret2
    exact ⟨rfl, hb⟩
  · simp only [pairOf]
    by_cases hv : v < 0
    · go_wp2
      go_ret2
      refine ⟨?_, hb⟩
      simp only [Option.bind_some, if_pos hv]; rfl
    · go_wp2
      go_ret2
      exact ⟨rfl, hb⟩
end Go.Proofs.YtlepfeffbpoobaaDoor
