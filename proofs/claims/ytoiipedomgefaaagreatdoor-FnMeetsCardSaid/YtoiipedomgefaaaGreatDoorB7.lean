/-
  Words and contracts that the laws lean on, bundled: ClassR, MeetM, MeetN, AtS, Copy, JoinS, JoinO, MeetS, Ident.
-/
import Derived.Test.YtoiipedomgefaaaGreatDoorB6
import Derived.Test.YtoiipedomgefaaaGreatDoorB2
import Derived.Test.YtoiipedomgefaaaGreatDoorB3
import Derived.Test.YtoiipedomgefaaaGreatDoorB4
import Derived.Test.YtoiipedomgefaaaGreatDoorB5
import Derived.Test.YtoiipedomgefaaaGreatDoorProg
import Derived.Test.YtoiipedomgefaaaGreatDoorB1

/-
  PLAIN: how large the results of chapter 12 are. Nothing here speaks of the program.
-/

namespace Go.Proofs.YtoiipedomgefaaaGreatDoor
set_option maxRecDepth 100000

theorem clsO_rows (L : List (List Int)) (m : Int) : (clsO L m).length ≤ 720 ∧ tot (clsO L m) ≤ 5760 ∧ ∀ z ∈ clsO L m, isP z = true := by
  unfold clsO
  split
  · rename_i h
    have hk : m.toNat ≤ 6 := by omega
    have h1 : (clsN L m.toNat).length ≤ 720 := Nat.le_trans (List.length_filter_le _ _) (permL_small _ hk).1
    have h2 : ∀ z ∈ clsN L m.toNat, isP z = true := fun z hz => (permL_mem _ hk z (List.mem_filter.1 hz).1).1
    exact ⟨h1, by have := tot_room 8 _ (fun z hz => isP_le (h2 z hz)); omega, h2⟩
  · simp [tot]
theorem buR_rows (L : List (List Int)) (m : Int) : (buR L m).length ≤ 4320 ∧ tot (buR L m) ≤ 34560 ∧ ∀ z ∈ buR L m, isP z = true := by
  unfold buR
  split
  · rename_i h
    have hk : m.toNat ≤ 6 := by omega
    have h1 : (buK L m.toNat).length ≤ 4320 := Nat.le_trans (buK_le L _ hk) (by omega)
    have h2 : ∀ z ∈ buK L m.toNat, isP z = true := fun z hz => ((buK_mem hk).1 hz).1
    exact ⟨h1, by have := tot_room 8 _ (fun z hz => isP_le (h2 z hz)); omega, h2⟩
  · simp [tot]
theorem cntsR_rows (L : List (List Int)) (m : Int) : (cntsR L m).length ≤ 7 ∧ ∀ x ∈ cntsR L m, 0 ≤ x ∧ x ≤ 720 := by
  refine ⟨cntsR_le L m, fun x hx => ?_⟩
  unfold cntsR at hx
  split at hx
  · rename_i h
    unfold cntsN at hx
    obtain ⟨j, hj, rfl⟩ := List.mem_map.1 hx
    have hj := List.mem_range.1 hj
    have h1 : (clsN L j).length ≤ 720 := Nat.le_trans (List.length_filter_le _ _) (permL_small _ (by omega)).1
    omega
  · cases hx
end Go.Proofs.YtoiipedomgefaaaGreatDoor


/-
  PLAIN: classes together (chapter 13): meets, unions, symmetric images, finite classes. Nothing here speaks of the program.
-/

namespace Go.Proofs.YtoiipedomgefaaaGreatDoor
set_option maxRecDepth 100000

/-! meets -/
theorem avo_append (a b : List (List Int)) (p : List Int) : avo (a ++ b) p = (avo a p && avo b p) := by unfold avo; rw [List.all_append]
theorem hasO_trans {p b u : List Int} (hp : isP p = true) (hb : isP b = true) (hu : isP u = true) (h1 : hasO p b = true) (h2 : hasO b u = true) : hasO p u = true := by
  obtain ⟨s, hs, rfl⟩ := (hasO_iff hp hb).1 h1
  exact hasO_pat hp hu hs hb h2
theorem mkK_stay {Z : List (List Int)} {x : List Int} {k : Nat} (h : x ∈ mkK Z k) : ∀ j, x ∈ mkK Z (k + j)
  | 0 => h
  | j + 1 => by
    rw [show k + (j + 1) = (k + j) + 1 by omega, mkK]
    split
    · exact List.mem_append_left _ (mkK_stay h j)
    · exact mkK_stay h j
/-- What was left out has something of the basis in it. -/
theorem mkO_has {L : List (List Int)} (hL : allP L = true) {b : List Int} (hb : b ∈ L) : ∃ u ∈ mkO L, hasO b u = true := by
  have hbo := (ordR_iff hL).2 hb
  obtain ⟨k, hk, rfl⟩ := List.getElem_of_mem hbo
  have hbp := ordR_mem hbo
  have hz : (ordR L)[k]? = some (ordR L)[k] := List.getElem?_eq_getElem hk
  have hup : ∀ u, u ∈ mkK (ordR L) (k + 1) → u ∈ mkO L := fun u hu => by
    have h := mkK_stay hu ((ordR L).length - (k + 1))
    rw [show k + 1 + ((ordR L).length - (k + 1)) = (ordR L).length by omega] at h
    exact h
  cases ha : avo (mkK (ordR L) k) (ordR L)[k] with
  | true =>
    refine ⟨_, hup _ ?_, hasO_self hbp⟩
    rw [mkK_yes hz ha]
    simp
  | false =>
    obtain ⟨u, hu, hh⟩ := avo_not ha
    exact ⟨u, hup u (mkK_stay hu 1), hh⟩
theorem avo_mkO {L : List (List Int)} (hL : allP L = true) {p : List Int} (hp : isP p = true) : avo (mkO L) p = avo L p := by
  rw [Bool.eq_iff_iff, avo_yes, avo_yes]
  constructor
  · intro h b hb
    cases hh : hasO p b with
    | false => rfl
    | true =>
      obtain ⟨u, hu, hbu⟩ := mkO_has hL hb
      have h1 := hasO_trans hp (allP_at hL hb) (ordR_mem (mkO_mem hu)) hh hbu
      rw [h u hu] at h1; cases h1
  · intro h b hb
    exact h b ((ordR_iff hL).1 (mkO_mem hb))
def meetOK (a b : List (List Int)) : Bool := basis a && basis b && mkOK (a ++ b)
def meetR (a b : List (List Int)) : List (List Int) := if meetOK a b then mkO (a ++ b) else []
theorem meetR_yes {a b : List (List Int)} (h : meetOK a b = true) : meetR a b = mkO (a ++ b) := by unfold meetR; rw [if_pos h]
theorem meetR_no {a b : List (List Int)} (h : meetOK a b = false) : meetR a b = [] := by unfold meetR; rw [if_neg (by simp [h])]
theorem meet_mk {a b : List (List Int)} (ha : basis a = true) (hb : basis b = true) : meetOK a b = mkOK (a ++ b) ∧ meetR a b = mkR (a ++ b) := by
  have h : meetOK a b = mkOK (a ++ b) := by unfold meetOK; rw [ha, hb]; rfl
  refine ⟨h, ?_⟩
  unfold meetR mkR
  rw [h]
theorem meet_basis {a b : List (List Int)} (h : meetOK a b = true) : basis a = true ∧ basis b = true ∧ basis (meetR a b) = true ∧ allP (a ++ b) = true := by
  have h0 := h
  unfold meetOK at h
  simp only [Bool.and_eq_true] at h
  have h3 := h.2
  unfold mkOK at h3
  rw [Bool.and_eq_true] at h3
  exact ⟨h.1.1, h.1.2, by rw [meetR_yes h0]; exact h3.2, h3.1⟩
theorem meet_avo {a b : List (List Int)} (h : meetOK a b = true) {p : List Int} (hp : isP p = true) : avo (meetR a b) p = (avo a p && avo b p) := by
  rw [meetR_yes h, avo_mkO (meet_basis h).2.2.2 hp, avo_append]
theorem meet_in {a b : List (List Int)} (h : meetOK a b = true) (p : List Int) : inC (meetR a b) p = (inC a p && inC b p) := by
  obtain ⟨h1, h2, h3, _⟩ := meet_basis h
  unfold inC
  rw [h1, h2, h3]
  cases hp : isP p with
  | false => rfl
  | true =>
    rw [meet_avo h hp]
    simp
theorem meetR_rows (a b : List (List Int)) : (meetR a b).length ≤ 8 ∧ tot (meetR a b) ≤ 64 ∧ ∀ z ∈ meetR a b, isP z = true := by
  cases h : meetOK a b with
  | false => rw [meetR_no h]; simp [tot]
  | true =>
    have hb := (meet_basis h).2.2.1
    have h1 := basis_le hb
    have h2 := fun z hz => (basis_isP hb z hz).1
    exact ⟨h1, by have := tot_room 8 _ (fun z hz => isP_le (h2 z hz)); omega, h2⟩
/-! a class within another one -/
def withR (a b : List (List Int)) : Bool := basis a && basis b && b.all fun q => !avo a q
theorem with_in {a b : List (List Int)} (h : withR a b = true) {p : List Int} (hp : isP p = true) (hpa : avo a p = true) : avo b p = true := by
  unfold withR at h
  simp only [Bool.and_eq_true, List.all_eq_true, Bool.not_eq_true'] at h
  refine avo_yes.2 fun q hq => ?_
  cases hh : hasO p q with
  | false => rfl
  | true =>
    obtain ⟨s, hs, hqs⟩ := avo_not (h.2 q hq)
    have h1 := hasO_trans hp (basis_isP h.1.2 q hq).1 (basis_isP h.1.1 s hs).1 hh hqs
    rw [avo_yes.1 hpa s hs] at h1; cases h1
theorem avo_own {L : List (List Int)} {q : List Int} (hq : q ∈ L) (hp : isP q = true) : avo L q = false := avo_no hq (hasO_self hp)
theorem meet_with {a b : List (List Int)} (h : meetOK a b = true) : withR (meetR a b) a = true ∧ withR (meetR a b) b = true := by
  obtain ⟨h1, h2, h3, _⟩ := meet_basis h
  unfold withR
  rw [h1, h2, h3]
  simp only [Bool.and_true, Bool.true_and, List.all_eq_true, Bool.not_eq_true']
  refine ⟨fun q hq => ?_, fun q hq => ?_⟩
  · have hqp := (basis_isP h1 q hq).1
    rw [meet_avo h hqp, avo_own hq hqp]; rfl
  · have hqp := (basis_isP h2 q hq).1
    rw [meet_avo h hqp, avo_own hq hqp, Bool.and_false]
/-! the first one beyond -/
def beyP (a b : List (List Int)) (p : List Int) : Bool := avo a p && !avo b p
def beyF (a b : List (List Int)) (m : Int) : Option (List Int) := if basis a = true ∧ basis b = true ∧ 0 ≤ m ∧ m ≤ 6 then (allU m.toNat).find? (beyP a b) else none
def beyOK (a b : List (List Int)) (m : Int) : Bool := (beyF a b m).isSome
def beyR (a b : List (List Int)) (m : Int) : List Int := (beyF a b m).getD []
theorem bey_yes {a b : List (List Int)} {k : Nat} (ha : basis a = true) (hb : basis b = true) (hk : k ≤ 6) : beyF a b (k : Int) = (allU k).find? (beyP a b) := by unfold beyF; rw [if_pos ⟨ha, hb, by omega, by omega⟩, Int.toNat_natCast]
theorem bey_no {a b : List (List Int)} {m : Int} (h : ¬ (basis a = true ∧ basis b = true ∧ 0 ≤ m ∧ m ≤ 6)) : beyF a b m = none := by unfold beyF; rw [if_neg h]
theorem bey_some {a b : List (List Int)} {m : Int} (h : beyOK a b m = true) : basis a = true ∧ basis b = true ∧ isP (beyR a b m) = true ∧ avo a (beyR a b m) = true ∧ avo b (beyR a b m) = false := by
  unfold beyOK at h
  obtain ⟨p, hp⟩ := Option.isSome_iff_exists.1 h
  have hR : beyR a b m = p := by unfold beyR; rw [hp]; rfl
  rw [hR]
  unfold beyF at hp
  split at hp
  · rename_i hc
    have h1 := List.find?_some hp
    have h2 := List.mem_of_find?_eq_some hp
    unfold beyP at h1
    simp only [Bool.and_eq_true, Bool.not_eq_true'] at h1
    exact ⟨hc.1, hc.2.1, ((mem_allU (by omega)).1 h2).1, h1.1, h1.2⟩
  · cases hp
theorem bey_with {a b : List (List Int)} {m : Int} (h : beyOK a b m = true) : inC a (beyR a b m) = true ∧ inC b (beyR a b m) = false ∧ withR a b = false := by
  obtain ⟨h1, h2, h3, h4, h5⟩ := bey_some h
  refine ⟨by unfold inC; rw [h1, h3, h4]; rfl, by unfold inC; rw [h2, h3, h5]; rfl, ?_⟩
  cases hw : withR a b with
  | false => rfl
  | true =>
    rw [with_in hw h3 h4] at h5
    cases h5
theorem beyR_le (a b : List (List Int)) (m : Int) : (beyR a b m).length ≤ 8 ∧ ∀ x ∈ beyR a b m, 1 ≤ x ∧ x ≤ 8 := by
  cases h : beyOK a b m with
  | false =>
    have h1 : beyF a b m = none := by unfold beyOK at h; cases hf : beyF a b m <;> simp_all
    have : beyR a b m = [] := by unfold beyR; rw [h1]; rfl
    rw [this]; simp
  | true =>
    have h1 := (bey_some h).2.2.1
    exact ⟨isP_le h1, fun x hx => by have := (isP_true.1 h1).2.1 x hx; have := isP_le h1; omega⟩
/-! unions -/
def uniN (a b : List (List Int)) (k : Nat) : List (List Int) := (List.range k).flatMap fun m => clsN a m ++ clsN b m
def uniR (a b : List (List Int)) (m : Int) : List (List Int) := if basis a = true ∧ basis b = true ∧ 0 ≤ m ∧ m ≤ 5 then buR (uniN a b (m.toNat + 1)) m else []
theorem uniR_no {a b : List (List Int)} {m : Int} (h : ¬ (basis a = true ∧ basis b = true ∧ 0 ≤ m ∧ m ≤ 5)) : uniR a b m = [] := by unfold uniR; rw [if_neg h]
theorem uniR_yes {a b : List (List Int)} {k : Nat} (ha : basis a = true) (hb : basis b = true) (hk : k ≤ 5) : uniR a b (k : Int) = buR (uniN a b (k + 1)) (k : Int) := by unfold uniR; rw [if_pos ⟨ha, hb, by omega, by omega⟩, Int.toNat_natCast]
theorem uniN_step (a b : List (List Int)) (k : Nat) : uniN a b (k + 1) = (uniN a b k ++ clsN a k) ++ clsN b k := by unfold uniN; rw [List.range_succ, List.flatMap_append]; simp
theorem clsN_len (L : List (List Int)) {k : Nat} (hk : k ≤ 6) : (clsN L k).length ≤ 720 := Nat.le_trans (List.length_filter_le _ _) (permL_small k hk).1
theorem uniN_le (a b : List (List Int)) : ∀ k, k ≤ 7 → (uniN a b k).length ≤ 1440 * k
  | 0, _ => by simp [uniN]
  | k + 1, hk => by
    have ih := uniN_le a b k (by omega)
    have h1 := clsN_len a (show k ≤ 6 by omega)
    have h2 := clsN_len b (show k ≤ 6 by omega)
    rw [uniN_step, List.length_append, List.length_append]
    omega
theorem uniN_P {a b : List (List Int)} {k : Nat} (hk : k ≤ 7) : ∀ z ∈ uniN a b k, isP z = true := fun z hz => by
  unfold uniN at hz
  obtain ⟨m, hm, hz⟩ := List.mem_flatMap.1 hz
  have hm := List.mem_range.1 hm
  rcases List.mem_append.1 hz with hz | hz
  · exact ((mem_clsN (by omega)).1 hz).1
  · exact ((mem_clsN (by omega)).1 hz).1
theorem uniR_rows (a b : List (List Int)) (m : Int) : (uniR a b m).length ≤ 4320 ∧ tot (uniR a b m) ≤ 34560 ∧ ∀ z ∈ uniR a b m, isP z = true := by
  unfold uniR
  split
  · exact buR_rows _ _
  · simp [tot]
/-! symmetric images -/
theorem hasO_of_len {p q p' q' : List Int} (hp : isP p = true) (hq : isP q = true) (hp' : isP p' = true) (hq' : isP q' = true) (h : (occR p' q').length = (occR p q).length) : hasO p' q' = hasO p q := by rw [hasO_occ hp hq, hasO_occ hp' hq', h]
theorem occ_cpl_len {p q : List Int} (hp : isP p = true) (hq : isP q = true) : (occR (cplL p) (cplL q)).length = (occR p q).length := by
  rw [← occ_inv_len (isP_cpl hp) (isP_cpl hq), inv_cpl hp, inv_cpl hq, occ_rev_len, occ_inv_len hp hq]
theorem occ_sym_len {p q : List Int} (hp : isP p = true) (hq : isP q = true) (k : Nat) : (occR (symL p k) (symL q k)).length = (occR p q).length := by
  have e1 : (occR (sym1 p k) (sym1 q k)).length = (occR p q).length := by
    unfold sym1
    split
    · exact occ_inv_len hp hq
    · rfl
  have e2 : (occR (sym2 p k) (sym2 q k)).length = (occR p q).length := by
    unfold sym2
    split
    · rw [occ_rev_len, e1]
    · exact e1
  unfold symL
  split
  · rw [occ_cpl_len (sym2_isP hp k) (sym2_isP hq k), e2]
  · exact e2
theorem hasO_sym {p q : List Int} (hp : isP p = true) (hq : isP q = true) (k : Nat) : hasO (symL p k) (symL q k) = hasO p q := hasO_of_len hp hq (symL_isP hp k) (symL_isP hq k) (occ_sym_len hp hq k)
theorem symL_length (p : List Int) (k : Nat) : (symL p k).length = p.length := by
  have h1 : (sym1 p k).length = p.length := by
    unfold sym1
    split
    · exact invL_length p
    · rfl
  have h2 : (sym2 p k).length = p.length := by
    unfold sym2
    split
    · rw [List.length_reverse, h1]
    · exact h1
  unfold symL
  split
  · rw [cplL_length, h2]
  · exact h2
theorem symL_back {p : List Int} (h : isP p = true) {k : Nat} (hk : k < 8) : symL (symL p k) (invS k) = p := by
  rw [sym_sym h hk (invS_lt k hk), mulS_inv k hk]
  exact (sym_list p).1
theorem symL_inj {p q : List Int} (hp : isP p = true) (hq : isP q = true) {k : Nat} (hk : k < 8) (h : symL p k = symL q k) : p = q := by
  rw [← symL_back hp hk, h, symL_back hq hk]
theorem avo_sym {L : List (List Int)} (hL : ∀ b ∈ L, isP b = true) {p : List Int} (hp : isP p = true) (k : Nat) : avo (L.map fun z => symL z k) (symL p k) = avo L p := by
  unfold avo
  rw [List.all_map]
  rw [Bool.eq_iff_iff, List.all_eq_true, List.all_eq_true]
  refine forall_congr' fun q => forall_congr' fun hq => ?_
  simp only [Function.comp_apply]
  rw [hasO_sym hp (hL q hq) k]
theorem avo_same {a b : List (List Int)} (h : ∀ x, x ∈ a ↔ x ∈ b) (p : List Int) : avo a p = avo b p := by
  rw [Bool.eq_iff_iff, avo_yes, avo_yes]
  exact ⟨fun ha q hq => ha q ((h q).2 hq), fun hb q hq => hb q ((h q).1 hq)⟩
def symB (L : List (List Int)) (k : Nat) : List (List Int) := ordR (L.map fun z => symL z k)
def symBOK (L : List (List Int)) (m : Int) : Bool := basis L && decide (0 ≤ m ∧ m ≤ 7)
def symBR (L : List (List Int)) (m : Int) : List (List Int) := if symBOK L m then symB L m.toNat else []
theorem symBR_yes {L : List (List Int)} {k : Nat} (h : basis L = true) (hk : k ≤ 7) : symBOK L (k : Int) = true ∧ symBR L (k : Int) = symB L k := by
  have h1 : symBOK L (k : Int) = true := by unfold symBOK; rw [h, decide_eq_true (by omega)]; rfl
  exact ⟨h1, by unfold symBR; rw [if_pos h1, Int.toNat_natCast]⟩
theorem symBR_no {L : List (List Int)} {m : Int} (h : symBOK L m = false) : symBR L m = [] := by unfold symBR; rw [if_neg (by simp [h])]
theorem sym_all {L : List (List Int)} (h : basis L = true) (k : Nat) : allP (L.map fun z => symL z k) = true := allP_yes fun z hz => by
  obtain ⟨y, hy, rfl⟩ := List.mem_map.1 hz
  exact symL_isP (basis_isP h y hy).1 k
theorem symB_mem {L : List (List Int)} (h : basis L = true) (k : Nat) {x : List Int} : x ∈ symB L k ↔ ∃ z ∈ L, symL z k = x := by
  unfold symB
  rw [ordR_iff (sym_all h k), List.mem_map]
theorem apart_of {U : List (List Int)} (hA : Asc U) (h : ∀ x ∈ U, ∀ y ∈ U, hasO x y = true → y = x) : Apart U := fun k z hz => by
  refine avo_yes.2 fun q hq => ?_
  cases hh : hasO z q with
  | false => rfl
  | true =>
    obtain ⟨i, hi, hqi⟩ : ∃ i, i < k ∧ U[i]? = some q := by
      obtain ⟨i, hi, he⟩ := List.getElem_of_mem hq
      rw [List.length_take] at hi
      refine ⟨i, by omega, ?_⟩
      rw [← he, List.getElem_take]
      exact List.getElem?_eq_getElem (by omega)
    obtain rfl := h z (List.mem_of_getElem? hz) q (List.mem_of_getElem? hqi) hh
    obtain ⟨h1, e1⟩ := List.getElem?_eq_some_iff.1 hqi
    obtain ⟨h2, e2⟩ := List.getElem?_eq_some_iff.1 hz
    unfold Asc at hA
    have := List.pairwise_iff_getElem.1 hA i k h1 h2 hi
    rw [e1, e2, befL_irrefl] at this
    cases this
theorem symB_len {L : List (List Int)} (k : Nat) : (symB L k).length ≤ L.length := by
  unfold symB
  exact Nat.le_trans (ordR_len _) (by rw [List.length_map]; exact Nat.le_refl _)
/-- The image of a basis is one. -/
theorem symB_basis {L : List (List Int)} (h : basis L = true) {k : Nat} (_ : k < 8) : basis (symB L k) = true := by
  refine basis_of (fun z hz => ?_) (ordR_asc _) (apart_of (ordR_asc _) fun x hx y hy hh => ?_) (Nat.le_trans (symB_len k) (basis_le h))
  · obtain ⟨y, hy, rfl⟩ := (symB_mem h k).1 hz
    have h1 := basis_isP h y hy
    exact ⟨symL_isP h1.1 k, by rw [symL_length]; exact h1.2⟩
  · obtain ⟨u, hu, rfl⟩ := (symB_mem h k).1 hx
    obtain ⟨v, hv, rfl⟩ := (symB_mem h k).1 hy
    rw [hasO_sym (basis_isP h u hu).1 (basis_isP h v hv).1 k] at hh
    rw [basis_apart h hv hu hh]
theorem symBR_rows (L : List (List Int)) (m : Int) : (symBR L m).length ≤ 8 ∧ tot (symBR L m) ≤ 64 ∧ ∀ z ∈ symBR L m, isP z = true := by
  cases h : symBOK L m with
  | false => rw [symBR_no h]; simp [tot]
  | true =>
    unfold symBOK at h
    simp only [Bool.and_eq_true, decide_eq_true_eq] at h
    obtain ⟨k, rfl⟩ : ∃ k : Nat, m = (k : Int) := ⟨m.toNat, by omega⟩
    rw [(symBR_yes h.1 (by omega)).2]
    have hb := symB_basis h.1 (k := k) (by omega)
    have h1 := basis_le hb
    have h2 := fun z hz => (basis_isP hb z hz).1
    exact ⟨h1, by have := tot_room 8 _ (fun z hz => isP_le (h2 z hz)); omega, h2⟩
theorem mulS_inv2 : ∀ k, k < 8 → mulS (invS k) k = 0 := by decide
/-- The images of the permutations of a length are those permutations. -/
theorem permL_sym {j k : Nat} (hj : j ≤ 6) (hk : k < 8) : ((permL j).map fun z => symL z k).Perm (permL j) := by
  have hnd : (permL j).Nodup := asc_nodup (permL_asc j hj)
  have hnd2 : ((permL j).map fun z => symL z k).Nodup := by
    rw [List.nodup_iff_pairwise_ne, List.pairwise_map]
    refine List.Pairwise.imp_of_mem (fun {a b} ha hb hab e => ?_) (List.nodup_iff_pairwise_ne.1 hnd)
    exact hab (symL_inj (permL_mem j hj a ha).1 (permL_mem j hj b hb).1 hk e)
  refine (List.perm_ext_iff_of_nodup hnd2 hnd).2 fun x => ?_
  rw [List.mem_map]
  constructor
  · rintro ⟨z, hz, rfl⟩
    obtain ⟨h1, h2⟩ := permL_mem j hj z hz
    exact perm_all j _ (by rw [symL_length, h2]) (symL_isP h1 k)
  · intro hx
    obtain ⟨h1, h2⟩ := permL_mem j hj x hx
    refine ⟨symL x (invS k), perm_all j _ (by rw [symL_length, h2]) (symL_isP h1 _), ?_⟩
    have hi := invS_lt k hk
    rw [sym_sym h1 hi hk]
    rw [mulS_inv2 k hk]
    exact (sym_list x).1
/-- Symmetric classes have the same counts. -/
theorem sym_counts {L : List (List Int)} (h : basis L = true) {k j : Nat} (hk : k < 8) (hj : j ≤ 6) : (clsN (symB L k) j).length = (clsN L j).length := by
  have hL := fun b hb => (basis_isP h b hb).1
  unfold clsN
  rw [← List.countP_eq_length_filter, ← List.countP_eq_length_filter, ← (permL_sym hj hk).countP_eq, List.countP_map]
  refine List.countP_congr fun p hp => ?_
  simp only [Function.comp_apply]
  rw [avo_same (b := L.map fun z => symL z k) (fun x => by rw [symB_mem h k, List.mem_map]), avo_sym hL (permL_mem j hj p hp).1 k]
theorem sym_cnts {L : List (List Int)} (h : basis L = true) {k n : Nat} (hk : k < 8) (hn : n ≤ 6) : cntsR (symB L k) (n : Int) = cntsR L (n : Int) := by
  rw [cntsR_yes h hn, cntsR_yes (symB_basis h hk) hn]
  unfold cntsN
  refine List.map_congr_left fun j hj => ?_
  rw [sym_counts h hk (by have := List.mem_range.1 hj; omega)]
/-! finite classes -/
def strP (p : List Int) : Bool := decide (p = upTo p.length)
def finR (L : List (List Int)) : Bool := basis L && (L.any strP && L.any fun z => strP z.reverse)
def sumC (L : List (List Int)) : Bool := basis L && L.all fun z => decide ((partsR z).length ≤ 1)
/-- What has an ascending and a descending permutation is short (lengths up to 6). -/
def esB (u d : Nat) : Bool := (permL ((u - 1) * (d - 1) + 1)).all fun p => hasO p (upTo u) || hasO p (upTo d).reverse
theorem es_all : ∀ u, u < 9 → ∀ d, d < 9 → 1 ≤ u → 1 ≤ d → (u - 1) * (d - 1) < 6 → esB u d = true := by decide +kernel
theorem fin_none {L : List (List Int)} {u d : Nat} (hL : basis L = true) (hu : upTo u ∈ L) (hd : (upTo d).reverse ∈ L) (hm : (u - 1) * (d - 1) < 6) : clsN L ((u - 1) * (d - 1) + 1) = [] := by
  have h1 := basis_isP hL _ hu
  have h2 := basis_isP hL _ hd
  have hul : (upTo u).length = u := upTo_length u
  have hdl : (upTo d).reverse.length = d := by rw [List.length_reverse]; exact upTo_length d
  have h3 := isP_le h1.1
  have h4 := isP_le h2.1
  have h5 := es_all u (by omega) d (by omega) (by omega) (by omega) hm
  unfold esB at h5
  rw [List.all_eq_true] at h5
  unfold clsN
  rw [List.filter_eq_nil_iff]
  intro p hp ha
  have h6 := h5 p hp
  rw [Bool.or_eq_true] at h6
  rcases h6 with h6 | h6
  · rw [avo_no hu h6] at ha; cases ha
  · rw [avo_no hd h6] at ha; cases ha
end Go.Proofs.YtoiipedomgefaaaGreatDoor


/-
  PLAIN: how the given side of chapter 13 comes to its answers. Nothing here speaks of the program.
-/

namespace Go.Proofs.YtoiipedomgefaaaGreatDoor
set_option maxRecDepth 100000

theorem basis_allP {L : List (List Int)} (h : allP L = false) : basis L = false := by
  cases hb : basis L with
  | false => rfl
  | true =>
    have h1 : allP L = true := allP_yes fun z hz => (basis_isP hb z hz).1
    rw [h] at h1; cases h1
theorem with_no1 {a b : List (List Int)} {q : List Int} (hq : q ∈ b) (h : isP q = false) : withR a b = false := by
  unfold withR
  rw [basis_allP (allP_no hq h)]
  cases basis a <;> rfl
theorem with_no2 {a : List (List Int)} (b : List (List Int)) (h : allP a = false) : withR a b = false := by
  unfold withR
  rw [basis_allP h]; rfl
theorem with_no3 {a b : List (List Int)} {q : List Int} (hq : q ∈ b) (h : avo a q = true) : withR a b = false := by
  unfold withR
  have : (b.all fun q => !avo a q) = false := by
    rw [List.all_eq_false]
    exact ⟨q, hq, by rw [h]; simp⟩
  rw [this, Bool.and_false]
theorem with_end {a b : List (List Int)} (h : ∀ q ∈ b, avo a q = false) : withR a b = (basis a && basis b) := by
  unfold withR
  have : (b.all fun q => !avo a q) = true := by
    rw [List.all_eq_true]
    intro q hq
    rw [h q hq]; rfl
  rw [this, Bool.and_true]
theorem row_step {L : List (List Int)} {f : List Int → Bool} {k : Nat} {z : List Int} (hz : L[k]? = some z) (hf : f z = false) (h : ∀ q ∈ L.take k, f q = false) : ∀ q ∈ L.take (k + 1), f q = false := fun q hq => by
  rw [List.take_add_one, hz] at hq
  rcases List.mem_append.1 hq with hq | hq
  · exact h q hq
  · simp at hq; subst hq; exact hf
/-! finite classes -/
theorem any_step {L : List (List Int)} {f : List Int → Bool} {k : Nat} {z : List Int} (hz : L[k]? = some z) : (L.take (k + 1)).any f = ((L.take k).any f || f z) := by rw [List.take_add_one, hz]; simp
theorem fin_no {L : List (List Int)} (h : basis L = false) : finR L = false := by unfold finR; rw [h]; rfl
theorem fin_yes {L : List (List Int)} (h : basis L = true) : finR L = (L.any strP && L.any fun z => strP z.reverse) := by unfold finR; rw [h]; rfl
theorem basis_some {L : List (List Int)} (h : basis L = false) : 0 < L.length := by
  cases L with
  | nil => exact absurd h (by decide)
  | cons x r => simp
/-! sums -/
theorem sum_no {L : List (List Int)} {z : List Int} (hz : z ∈ L) (h : 1 < (partsR z).length) : sumC L = false := by
  unfold sumC
  have : (L.all fun z => decide ((partsR z).length ≤ 1)) = false := by
    rw [List.all_eq_false]
    exact ⟨z, hz, by rw [decide_eq_false (by omega)]; simp⟩
  rw [this, Bool.and_false]
theorem sum_end {L : List (List Int)} (h : ∀ z ∈ L, decide (1 < (partsR z).length) = false) : sumC L = basis L := by
  unfold sumC
  have : (L.all fun z => decide ((partsR z).length ≤ 1)) = true := by
    rw [List.all_eq_true]
    intro z hz
    have := of_decide_eq_false (h z hz)
    exact decide_eq_true (by omega)
  rw [this, Bool.and_true]
/-! the first one beyond -/
theorem allU_parts {m n : Nat} (h : m ≤ n) : ∃ r, allU n = ((List.range m).flatMap permL ++ permL m) ++ r := by
  unfold allU
  obtain ⟨d, rfl⟩ : ∃ d, n = m + d := ⟨n - m, by omega⟩
  induction d with
  | zero => exact ⟨[], by rw [Nat.add_zero, List.range_succ, List.flatMap_append]; simp⟩
  | succ d ih =>
    obtain ⟨r, hr⟩ := ih (by omega)
    refine ⟨r ++ permL (m + d + 1), ?_⟩
    rw [show m + (d + 1) + 1 = (m + d + 1) + 1 by omega, List.range_succ, List.flatMap_append, hr]
    simp
theorem part_at {α : Type} {P : List α} {k : Nat} (h : k < P.length) (r : List α) : P ++ r = P.take k ++ P[k] :: (P.drop (k + 1) ++ r) := by
  have e : P ++ r = (P.take k ++ P.drop k) ++ r := by rw [List.take_append_drop]
  rw [e, List.drop_eq_getElem_cons h, List.append_assoc, List.cons_append]
theorem bey_found {a b : List (List Int)} {m n k : Nat} {p : List Int} (hmn : m ≤ n) (hk : (permL m)[k]? = some p) (h1 : ∀ q ∈ (List.range m).flatMap permL, beyP a b q = false) (h2 : ∀ q ∈ (permL m).take k, beyP a b q = false) (hp : beyP a b p = true) : (allU n).find? (beyP a b) = some p := by
  obtain ⟨r, hr⟩ := allU_parts hmn
  rw [List.find?_eq_some_iff_append]
  refine ⟨hp, (List.range m).flatMap permL ++ (permL m).take k, (permL m).drop (k + 1) ++ r, ?_, fun q hq => ?_⟩
  · obtain ⟨hlt, rfl⟩ := List.getElem?_eq_some_iff.1 hk
    rw [hr, List.append_assoc, List.append_assoc]
    congr 1
    exact part_at hlt r
  · rcases List.mem_append.1 hq with hq | hq
    · rw [h1 q hq]; rfl
    · rw [h2 q hq]; rfl
theorem bey_none {a b : List (List Int)} {n : Nat} (h : ∀ q ∈ (List.range (n + 1)).flatMap permL, beyP a b q = false) : (allU n).find? (beyP a b) = none := by
  rw [List.find?_eq_none]
  intro q hq
  rw [h q hq]; simp
theorem bey_step {a b : List (List Int)} {m : Nat} (h1 : ∀ q ∈ (List.range m).flatMap permL, beyP a b q = false) (h2 : ∀ q ∈ permL m, beyP a b q = false) : ∀ q ∈ (List.range (m + 1)).flatMap permL, beyP a b q = false := fun q hq => by
  rw [List.range_succ, List.flatMap_append] at hq
  rcases List.mem_append.1 hq with hq | hq
  · exact h1 q hq
  · simp at hq; exact h2 q hq
theorem bey_is {a b : List (List Int)} {m : Int} {p : List Int} (h : beyF a b m = some p) : beyOK a b m = true ∧ beyR a b m = p := by
  unfold beyOK beyR
  rw [h]
  exact ⟨rfl, rfl⟩
theorem bey_not {a b : List (List Int)} {m : Int} (h : beyF a b m = none) : beyOK a b m = false ∧ beyR a b m = [] := by
  unfold beyOK beyR
  rw [h]
  exact ⟨rfl, rfl⟩
/-! images -/
theorem symB_ord (L : List (List Int)) (k : Nat) (h : basis L = true) : symB L k = ordL (L.map fun z => symL z k) L.length := by
  unfold symB
  rw [ordR_yes (sym_all h k), List.length_map]
end Go.Proofs.YtoiipedomgefaaaGreatDoor


/-
  A list of rows that is read place by place.
-/

namespace Go.Proofs.YtoiipedomgefaaaGreatDoor
set_option maxRecDepth 100000
open Go.RowKit

/-- How a list of rows reads, place by place, in every world behind it. -/
def AtS (w : World) (A : Option Addr) (n : Nat) (zss : List (List Int)) : Prop :=
  zss.length = n ∧ ∀ wr, Below w.heap.size w wr → ∀ k, k < n → ∃ ad A' c' z, A = some ad ∧ zss[k]? = some z ∧ wr.cell? (ad.add k) = some (.slice A' z.length c') ∧ Arg wr wr.heap.size A' z.length c' z
theorem IntsS.atS {w : World} {B n c : Nat} {A : Option Addr} {zss : List (List Int)} (h : IntsS w B (.slice A n c) zss) (hsm : ∀ z ∈ zss, z.length ≤ 1048576 ∧ Small z) : AtS w A n zss :=
  ⟨h.len, fun wr hb k hk => by
    obtain ⟨ad, A', c', z, hA, hz, hc, hI⟩ := (h.below hb).at_ hk
    have hs := hsm z (List.mem_of_getElem? hz)
    exact ⟨ad, A', c', z, hA, hz, hc, hI.arg hs.1 hI.cap hs.2⟩⟩
/-- 'list[f:]', f a place of it. -/
theorem AtS.rest {w : World} {n f : Nat} {ad : Addr} {zss : List (List Int)} (h : AtS w (some ad) n zss) (hf : f ≤ n) : AtS w (some (ad.add f)) (n - f) (zss.drop f) :=
  ⟨by rw [List.length_drop, h.1], fun wr hb k hk => by
    obtain ⟨ad', A', c', z, hA, hz, hc, hI⟩ := h.2 wr hb (f + k) (by omega)
    injection hA with hA
    subst hA
    exact ⟨_, A', c', z, rfl, by rw [List.getElem?_drop]; exact hz, by rw [add_of_add]; exact hc, hI⟩⟩
theorem AtS.below {w w' : World} {n : Nat} {A : Option Addr} {zss : List (List Int)} (h : AtS w A n zss) (hb : Below w.heap.size w w') : AtS w' A n zss :=
  ⟨h.1, fun wr hb' k hk => h.2 wr (hb.trans (hb'.mono hb.size)) k hk⟩
end Go.Proofs.YtoiipedomgefaaaGreatDoor


/-
  spec.l2Copy by its contract.
-/

namespace Go.Proofs.YtoiipedomgefaaaGreatDoor
set_option maxRecDepth 100000
open Go.RowKit
/-- A copy: rows of the call's own, at a block's head. -/
def CopyEnds (w : World) (zss : List (List Int)) (e : Ending) (w' : World) : Prop := ∃ g c, e = .returned (.slice (some ⟨g, 0, none⟩) zss.length c) ∧ IntsS w' w.heap.size (.slice (some ⟨g, 0, none⟩) zss.length c) zss ∧ Below w.heap.size w w'
set_option maxHeartbeats 1600000 in
theorem l2copy_any (P : Option Addr) (m d : Nat) (S : List (List Int)) (w : World) (hS : AtS w P m S) (hm : m ≤ 1048576) :
    Calls Tryz.prog 46 #[.slice P m d] w (CopyEnds w S) := by
  have hl := hS.1
  have HS := hide hS
  have HL := hide hl
  have hI0 := IntsS.made0 w w.heap.size (Nat.le_refl _)
  have hb0 : Below w.heap.size w (w.alloc (.cells #[] 36)) := (Below.refl _ w).alloc (Nat.le_refl _) _
  clear hS hl
  go_enter Tryz.func46, Tryz.ntmps46
  go_wp2
  go_loopw [3, 4] (fun v i wr => ∃ (k g c : Nat), k ≤ m ∧ i = .int .i64 k ∧ v = .slice (some ⟨g, 0, none⟩) k c ∧ IntsS wr w.heap.size (.slice (some ⟨g, 0, none⟩) k c) (S.take k) ∧ Below w.heap.size w wr) (fun _ i _ => m - (intOf i).toNat)
  case atStart => exact ⟨0, w.heap.size, 0, Nat.zero_le _, rfl, rfl, hI0, hb0⟩
  case round =>
    obtain ⟨k, g, c, hk, rfl, rfl, hI, hb⟩ := hrel
    clear hI0 hb0
    by_cases hlt : k < m
    · obtain ⟨ad, A', c', z, rfl, hz, hcell, hA⟩ := (unhide HS).2 wr hb k hlt
      have hzl := hA.le
      have hnext := hide (show S.take (k + 1) = S.take k ++ [z] from by rw [List.take_add_one, hz]; rfl)
      have hb1e : Below wr.heap.size wr (wr.alloc (.cells #[] 3)) := (Below.refl _ wr).alloc (Nat.le_refl _) _
      have hown0 := own0 wr wr.heap.size (Nat.le_refl _)
      have hAe := hA.below hb1e
      have hze : wr.heap.size ≤ (wr.alloc (.cells #[] 3)).heap.size := hb1e.size
      have lc : (ad.add k).block < wr.heap.size := World.block_lt_of_cell? _ _ hcell
      have htk : (S.take k).length ≤ 1048576 := by rw [List.length_take]; omega
      have hsz := hb.size
      clear hz hA
      go_wp2_with (first
        | (at_builtin; refine wpList_append_arg rfl (.tmp 13) (.tmp 17) rfl wr.heap.size wr.heap.size 0 z.length c' wr _ A' [] z rfl rfl hown0 hAe (by omega) hb1e hze ?_; intro v6 w6 hown6 hb6 hg6; have hI6 := Ints.of_own hown6; rw [List.nil_append] at hI6; obtain ⟨A6, c6, rfl⟩ := hI6.slice; clear hown6 hg6 hown0 hAe hb1e hze)
        | (at_builtin; refine wpList_push_row rfl (.tmp 12) (.tmp 19) rfl w.heap.size w wr w6 _ _ (S.take k) z rfl rfl rfl hI hb6 hI6 htk (below_after hb hb6) hsz ?_; intro v8 w8 hI8 hb8))
      rw [← unhide hnext] at hI8
      obtain ⟨A8, c8, rfl⟩ := hI8.slice
      have hl8 : (S.take (k + 1)).length = k + 1 := by rw [List.length_take]; have := unhide HL; omega
      rw [hl8] at hI8
      obtain ⟨g8, rfl⟩ := hI8.shape (Nat.succ_pos k)
      have HI8 := hide hI8
      rw [hl8]
      clear hI hI8 hI6 hb6 hb hcell
      go_wp2
      go_roundw
      case rel => exact ⟨k + 1, g8, c8, by omega, by go_num, rfl, unhide HI8, hb8⟩
      case measure => simp [intOf]; omega
    · obtain rfl : m = k := by omega
      have hfin : Hid (IntsS wr w.heap.size (.slice (some ⟨g, 0, none⟩) S.length c) S) := hide (by
        have e : S.take m = S := by rw [← unhide HL, List.take_length]
        rw [e] at hI
        rw [unhide HL]; exact hI)
      clear hI
      go_wp2
      go_ret
      exact ⟨g, c, by rw [unhide HL]; rfl, unhide hfin, hb⟩
end Go.Proofs.YtoiipedomgefaaaGreatDoor


/-
  WORDS: 'out = append(out, list...)', list a list of rows made since. Nothing here speaks of a function of the program.
-/

namespace Go.Proofs.YtoiipedomgefaaaGreatDoor
set_option maxRecDepth 100000
open Go.RowKit

theorem Inner.join {w : World} {B : Nat} {vs us : List Value} {Z U : List (List Int)} (h : Inner w B vs Z) (k : Inner w B us U) (ha : ∀ x ∈ vs, ∀ y ∈ us, Away x y) : Inner w B (vs ++ us) (Z ++ U) := by
  refine ⟨by simp [h.len, k.len], fun i x ys hx hy => ?_, ?_⟩
  · have hl := h.len
    by_cases hi : i < vs.length
    · rw [List.getElem?_append_left hi] at hx
      rw [List.getElem?_append_left (by omega)] at hy
      exact h.row i x ys hx hy
    · rw [List.getElem?_append_right (by omega)] at hx
      rw [List.getElem?_append_right (by omega), ← hl] at hy
      exact k.row _ x ys hx hy
  · rw [List.pairwise_append]
    exact ⟨h.away, k.away, ha⟩
theorem own_nil {w : World} {B n c : Nat} {A : Option Addr} {e : TypeId} {xs : List Value} (h : w.ownsRow B e 1 (.slice A n c) n xs) : A = none → c = 0 := fun hA => by
  rcases h.2 with ⟨hv, _⟩ | ⟨g, cap, cur, hv, _⟩
  · injection hv
  · injection hv with h1; rw [h1] at hA; cases hA
theorem wpList_append_lists {ops : Array Oper} {rest : List Oper} {o : Oper} {a : Act} {Q : Exit → Act → World → Prop} (hgd : o.guard = none) (s x : Operand)
    (ho : o.op = .call { callee := .builtin .append, args := #[s, x], argTypes := #[24, 24] })
    (B : Nat) (W0 w0 wr : World) (v : Value) (A : Option Addr) (n c : Nat) (U Z : List (List Int)) (hs : a.eval s = v) (hx : a.eval x = .slice A n c)
    (hS : IntsS w0 B v U) (hb0 : Below w0.heap.size w0 wr) (hZ : IntsS wr w0.heap.size (.slice A n c) Z) (hU : U.length ≤ 1048576) (hn : n ≤ 1048576) (hb : Below B W0 wr) (hB : B ≤ w0.heap.size)
    (K : ∀ v' w', IntsS w' B v' (U ++ Z) → Below B W0 w' → wpList Tryz.prog ops Q rest (a.put o.dst v') w') : wpList Tryz.prog ops Q (o :: rest) a wr := by
  have hl := hZ.len
  subst hl
  obtain ⟨vs, h1, h2⟩ := hS
  obtain ⟨us, k1, k2⟩ := hZ
  have h3 := own_below h1 hb0
  have h4 := h2.keepI (KeepI.of_below hb0)
  have hr := Reads.of_own_at k1
  refine wpList_append_rows hgd s x ho B wr.heap.size U.length Z.length c W0 v A vs us hs hx h3 hr (own_nil k1) (fun u hu => ?_) (by omega) (by omega) hb (Nat.le_trans hB hb0.size) ?_
  · obtain ⟨z, hz⟩ := k2.mem hu
    obtain ⟨A9, c9, rfl⟩ := hz.slice
    rfl
  · intro v' w' o1 o2 o3 _
    have hk := KeepI.of_grown h3 o3
    refine K v' w' ⟨vs ++ us, by rw [List.length_append]; exact o1, (h4.keepI hk).join ((k2.keepI hk).low hB) fun x hx y hy => ?_⟩ o2
    obtain ⟨z, hz⟩ := k2.mem hy
    exact (h2.away_new hz.since (Nat.le_refl _)) x hx
end Go.Proofs.YtoiipedomgefaaaGreatDoor


/-
  WORDS: 'append(out, list...)', list a list of rows that stood before out was made. Nothing here speaks of a function of the program.
-/

namespace Go.Proofs.YtoiipedomgefaaaGreatDoor
set_option maxRecDepth 100000
open Go.RowKit

theorem own_any {w : World} {B B' n : Nat} {e : TypeId} {v : Value} {xs : List Value} (h : w.ownsRow B e 1 v n xs) (hB : B' ≤ B) : w.ownsRow B' e 1 v n xs := by
  refine ⟨h.1, ?_⟩
  rcases h.2 with h0 | ⟨g, cap, cur, hv, hb, hr⟩
  · exact .inl h0
  · exact .inr ⟨g, cap, cur, hv, Nat.le_trans hB hb, hr⟩
theorem wpList_append_old {ops : Array Oper} {rest : List Oper} {o : Oper} {a : Act} {Q : Exit → Act → World → Prop} (hgd : o.guard = none) (s x : Operand)
    (ho : o.op = .call { callee := .builtin .append, args := #[s, x], argTypes := #[24, 24] })
    (B : Nat) (w0 wr : World) (v : Value) (A : Option Addr) (n c : Nat) (U Z : List (List Int)) (hs : a.eval s = v) (hx : a.eval x = .slice A n c)
    (hZ : IntsS w0 B (.slice A n c) Z) (hb0 : Below w0.heap.size w0 wr) (hS : IntsS wr w0.heap.size v U) (hU : U.length ≤ 1048576) (hn : n ≤ 1048576)
    (K : ∀ v' w', IntsS w' 0 v' (U ++ Z) → Below w0.heap.size w0 w' → wpList Tryz.prog ops Q rest (a.put o.dst v') w') : wpList Tryz.prog ops Q (o :: rest) a wr := by
  have hl := hZ.len
  subst hl
  obtain ⟨vs, h1, h2⟩ := hS
  obtain ⟨us, k1, k2⟩ := hZ
  have k3 := own_below k1 hb0
  have k4 := k2.keepI (KeepI.of_below hb0)
  have hr := Reads.of_own_at k3
  refine wpList_append_rows hgd s x ho w0.heap.size wr.heap.size U.length Z.length c w0 v A vs us hs hx h1 hr (own_nil k1) (fun u hu => ?_) (by omega) (by omega) hb0 hb0.size ?_
  · obtain ⟨z, hz⟩ := k2.mem hu
    obtain ⟨A9, c9, rfl⟩ := hz.slice
    rfl
  · intro v' w' o1 o2 o3 _
    have hk := KeepI.of_grown h1 o3
    refine K v' w' ⟨vs ++ us, by rw [List.length_append]; exact own_any o1 (Nat.zero_le _), ((h2.keepI hk).low (Nat.zero_le _)).join ((k4.keepI hk).low (Nat.zero_le _)) fun x hx y hy => ?_⟩ o2
    obtain ⟨z, hz⟩ := h2.mem hx
    obtain ⟨z2, hz2⟩ := k2.mem hy
    exact Away.symm (apart hz2.until_ hz.since (Nat.le_refl _))
end Go.Proofs.YtoiipedomgefaaaGreatDoor


/-
  spec.MeetClasses, IsWithin, UnionUpTo, by their contracts.
-/

namespace Go.Proofs.YtoiipedomgefaaaGreatDoor
set_option maxRecDepth 100000
open Go.RowKit

theorem perm_rows {L : List (List Int)} (h : ∀ z ∈ L, isP z = true) : ∀ z ∈ L, z.length ≤ 1048576 ∧ Small z := fun z hz => ⟨by have := isP_le (h z hz); omega, isP_small (h z hz)⟩
theorem perm_all2 {a b : List (List Int)} (ha : basis a = true) (hb : basis b = true) : ∀ z ∈ a ++ b, isP z = true := fun z hz => by
  rcases List.mem_append.1 hz with hz | hz
  · exact (basis_isP ha z hz).1
  · exact (basis_isP hb z hz).1
set_option maxHeartbeats 1600000 in
theorem smeet_any (A A' : Option Addr) (n c B n' c' B' : Nat) (a b : List (List Int)) (w : World) (hS : IntsS w B (.slice A n c) a) (hS' : IntsS w B' (.slice A' n' c') b) (hn : n ≤ 1048576) (hn' : n' ≤ 1048576) (hsm : ∀ z ∈ a, z.length ≤ 1048576 ∧ Small z) (hsm' : ∀ z ∈ b, z.length ≤ 1048576 ∧ Small z) :
    Calls Tryz.prog 8 #[.slice A n c, .slice A' n' c'] w (GivesSSB w (meetR a b) (meetOK a b)) := by
  obtain ⟨ba, hba⟩ : ∃ x, basis a = x := ⟨_, rfl⟩
  obtain ⟨bb, hbb⟩ : ∃ x, basis b = x := ⟨_, rfl⟩
  have H1 := hide (sbas_any A n c B a w hS hn hsm)
  rw [hba] at H1
  cases ba with
  | false =>
    have hno : meetOK a b = false := by unfold meetOK; rw [hba]; rfl
    rw [meetR_no hno, hno]
    clear hS hS' hsm hsm' hba hbb hno
    go_enter Tryz.func8, Tryz.ntmps8
    go_wp2_with fail
    refine (unhide H1).mono ?_
    rintro e w1 ⟨rfl, d1⟩
    have hm := IntsS.made0 w1 w.heap.size d1.size
    have hb2 := d1.alloc d1.size (.cells #[] 36)
    clear H1 d1
    go_wp2
    go_ret2
    exact GivesSSB.mk false hm hb2
  | true =>
    have H2 := hide (fun (w' : World) (d : Below w.heap.size w w') => by have h := sbas_any A' n' c' B' b w' (hS'.below d) hn' hsm'; rw [hbb] at h; exact h)
    cases bb with
    | false =>
      have hno : meetOK a b = false := by unfold meetOK; rw [hba, hbb]; rfl
      rw [meetR_no hno, hno]
      clear hS hS' hsm hsm' hba hbb hno
      go_enter Tryz.func8, Tryz.ntmps8
      go_wp2_with fail
      refine (unhide H1).mono ?_
      rintro e w1 ⟨rfl, d1⟩
      have H3 := hide (unhide H2 w1 d1)
      clear H1 H2
      go_wp2_with fail
      refine (unhide H3).mono ?_
      rintro e w2 ⟨rfl, d2⟩
      have hb2 := below_after d1 d2
      have hm := IntsS.made0 w2 w.heap.size hb2.size
      have hb3 := hb2.alloc hb2.size (.cells #[] 36)
      clear H3 d1 d2 hb2
      go_wp2
      go_ret2
      exact GivesSSB.mk false hm hb3
    | true =>
      obtain ⟨e1, e2⟩ := meet_mk hba hbb
      have HE := hide (⟨e1, e2⟩ : meetOK a b = mkOK (a ++ b) ∧ meetR a b = mkR (a ++ b))
      have ha8 := basis_le hba
      have hb8 := basis_le hbb
      have hla := hS.len
      have hlb := hS'.len
      have HP := hide (perm_rows (perm_all2 hba hbb))
      have HC := hide (fun (w' : World) (d : Below w.heap.size w w') => l2copy_any A n c a w' ((hS.below d).atS hsm) hn)
      have HB := hide (fun (w' : World) (d : Below w.heap.size w w') => hS'.below d)
      have hlen : (a ++ b).length ≤ 1048576 := by rw [List.length_append]; omega
      have hal : a.length ≤ 1048576 := by omega
      clear hS hS' hsm hsm' hba hbb e1 e2 hla hlb ha8 hb8
      go_enter Tryz.func8, Tryz.ntmps8
      go_wp2_with fail
      refine (unhide H1).mono ?_
      rintro e w1 ⟨rfl, d1⟩
      have H3 := hide (unhide H2 w1 d1)
      clear H1 H2
      go_wp2_with fail
      refine (unhide H3).mono ?_
      rintro e w2 ⟨rfl, d2⟩
      have hb2 := below_after d1 d2
      have H4 := hide (unhide HC w2 hb2)
      have hB2 := unhide HB w2 hb2
      clear H3 d1 d2 HC HB
      go_wp2_with fail
      refine (unhide H4).mono ?_
      rintro e w3 ⟨g, cg, rfl, o3, d3⟩
      clear H4
      go_wp2_with (first
        | (at_builtin; refine wpList_append_old rfl (.tmp 19) (.tmp 20) rfl B' w2 w3 _ A' n' c' a b rfl rfl hB2 d3 o3 hal hn' ?_; intro v4 w4 hI4 hb4))
      have hbw4 := below_after hb2 hb4
      obtain ⟨A4, c4, rfl⟩ := hI4.slice
      have H5 := hide (smkb_any A4 _ c4 0 (a ++ b) w4 hI4 hlen (unhide HP))
      rw [← (unhide HE).1, ← (unhide HE).2] at H5
      clear hI4 hB2 o3 d3 hb4 hb2
      go_wp2_with fail
      refine (unhide H5).mono ?_
      rintro e w5 ⟨A5, c5, rfl, o5, d5⟩
      have hb5 := below_after hbw4 d5
      have HI := hide (o5.low hbw4.size)
      clear H5 o5 d5 hbw4
      go_wp2
      go_ret2
      exact GivesSSB.mk _ (unhide HI) hb5
set_option maxHeartbeats 1600000 in
theorem swith_any (A A' : Option Addr) (n c B n' c' B' : Nat) (a b : List (List Int)) (w : World) (hS : IntsS w B (.slice A n c) a) (hS' : IntsS w B' (.slice A' n' c') b) (hn : n ≤ 1048576) (hn' : n' ≤ 1048576) (hsm : ∀ z ∈ a, z.length ≤ 1048576 ∧ Small z) (hsm' : ∀ z ∈ b, z.length ≤ 1048576 ∧ Small z) :
    Calls Tryz.prog 27 #[.slice A n c, .slice A' n' c'] w (GivesB w (withR a b)) := by
  have hl' := hS'.len
  have HA := hide (⟨hS, hS', hsm, hsm'⟩ : IntsS w B (.slice A n c) a ∧ IntsS w B' (.slice A' n' c') b ∧ (∀ z ∈ a, z.length ≤ 1048576 ∧ Small z) ∧ ∀ z ∈ b, z.length ≤ 1048576 ∧ Small z)
  have HL := hide hl'
  obtain ⟨bp, hbp⟩ : ∃ x, allP a = x := ⟨_, rfl⟩
  have HBP := hide hbp
  have hb0 := Below.refl w.heap.size w
  clear hS hS' hsm hsm' hl' hbp
  go_enter Tryz.func27, Tryz.ntmps27
  go_wp2
  go_loopw [5] (fun i wr => ∃ k : Nat, k ≤ n' ∧ i = .int .i64 k ∧ Below w.heap.size w wr ∧ Hid (∀ q ∈ b.take k, avo a q = false)) (fun i _ => n' - (intOf i).toNat)
  case atStart => exact ⟨0, Nat.zero_le _, rfl, hb0, fun q hq => by simp at hq⟩
  case round =>
    obtain ⟨k, hk, rfl, hb, hno⟩ := hrel
    clear hb0
    by_cases hlt : k < n'
    · obtain ⟨ad, A6, c6, z, rfl, hz, hcell, hI⟩ := ((unhide HA).2.1.below hb).at_ hlt
      have hzs := (unhide HA).2.2.2 z (List.mem_of_getElem? hz)
      have hArg := hI.arg hzs.1 hI.cap hzs.2
      obtain ⟨b1, hb1⟩ : ∃ x, isP z = x := ⟨_, rfl⟩
      have H1 := hide (sisperm_any A6 z.length c6 _ z b1 hb1 wr hArg.reads hArg.le hArg.cap)
      have hcl := World.block_lt_of_cell? wr _ hcell
      have HZ := hide hz
      cases b1 with
      | false =>
        have HR := hide (with_no1 (a := a) (List.mem_of_getElem? hz) hb1)
        obtain ⟨lz, hlz⟩ : ∃ l, l = z.length := ⟨_, rfl⟩
        rw [← hlz] at hcell H1
        clear hz hI hzs hArg hb1 hlz
        go_wp2_with fail
        refine (unhide H1).mono ?_
        rintro e w2 ⟨rfl, d2⟩
        have hb2 := hb.trans (d2.below _)
        clear H1 d2 hcell hcl hb
        go_wp2
        go_ret
        exact ⟨ret_bool (unhide HR).symm, hb2⟩
      | true =>
        have H2 := hide (fun (w' : World) (d : Below wr.heap.size wr w') => l3all_any A n c B a bp (unhide HBP) w' (((unhide HA).1.below hb).below d) hn (unhide HA).2.2.1)
        cases bp with
        | false =>
          have HR := hide (with_no2 b (unhide HBP))
          obtain ⟨lz, hlz⟩ : ∃ l, l = z.length := ⟨_, rfl⟩
          rw [← hlz] at hcell H1
          clear hz hI hzs hArg hb1 hlz
          go_wp2_with fail
          refine (unhide H1).mono ?_
          rintro e w2 ⟨rfl, d2⟩
          have H3 := hide (unhide H2 w2 (d2.below _))
          clear H1 H2
          go_wp2_with fail
          refine (unhide H3).mono ?_
          rintro e w3 ⟨rfl, d3⟩
          have hb3 := hb.trans ((d2.below _).trans (d3.below _))
          clear H3 d2 d3 hcell hcl hb
          go_wp2
          go_ret
          exact ⟨ret_bool (unhide HR).symm, hb3⟩
        | true =>
          obtain ⟨b3, hb3⟩ : ∃ x, avo a z = x := ⟨_, rfl⟩
          have H4 := hide (fun (w' : World) (d : Below wr.heap.size wr w') => by have h := savo_any A A6 n c B z.length c6 _ a z w' (((unhide HA).1.below hb).below d) (hArg.below d) hb1 (fun y hy => allP_at (unhide HBP) hy) hn; rw [hb3] at h; exact h)
          have HE := hide hb3
          obtain ⟨lz, hlz⟩ : ∃ l, l = z.length := ⟨_, rfl⟩
          rw [← hlz] at hcell H1 H4
          clear hz hI hzs hArg hb1 hlz hb3
          go_wp2_with fail
          refine (unhide H1).mono ?_
          rintro e w2 ⟨rfl, d2⟩
          have H3 := hide (unhide H2 w2 (d2.below _))
          clear H1 H2
          go_wp2_with fail
          refine (unhide H3).mono ?_
          rintro e w3 ⟨rfl, d3⟩
          have d := (d2.below wr.heap.size).trans (d3.below _)
          have hcell3 := (d.cell hcl).trans hcell
          have H5 := hide (unhide H4 w3 d)
          have hb3 := hb.trans (d.mono hb.size)
          clear H3 H4 d2 d3 hcell hcl hb d
          go_wp2_with fail
          refine (unhide H5).mono ?_
          rintro e w4 ⟨rfl, d4⟩
          have hb4 := below_after hb3 d4
          clear H5 hb3 d4 hcell3
          cases b3 with
          | true =>
            have HR := hide (with_no3 (a := a) (List.mem_of_getElem? (unhide HZ)) (unhide HE))
            go_wp2
            go_ret
            exact ⟨ret_bool (unhide HR).symm, hb4⟩
          | false =>
            have HS := hide (row_step (f := avo a) (unhide HZ) (unhide HE) (unhide hno))
            go_wp2
            go_roundw
            case rel => exact ⟨k + 1, by omega, by go_num, hb4, HS⟩
            case measure => simp [intOf]; omega
    · obtain rfl : n' = k := by omega
      have hall : ∀ q ∈ b, avo a q = false := by
        have h := unhide hno
        rwa [List.take_of_length_le (by rw [unhide HL]; exact Nat.le_refl _)] at h
      have HW := hide (with_end hall)
      obtain ⟨ba, hba⟩ : ∃ x, basis a = x := ⟨_, rfl⟩
      obtain ⟨bb, hbb⟩ : ∃ x, basis b = x := ⟨_, rfl⟩
      have H1 := hide (by have h := sbas_any A n c B a wr ((unhide HA).1.below hb) hn (unhide HA).2.2.1; rw [hba] at h; exact h)
      have H2 := hide (fun (w' : World) (d : Below wr.heap.size wr w') => by have h := sbas_any A' n' c' B' b w' (((unhide HA).2.1.below hb).below d) hn' (unhide HA).2.2.2; rw [hbb] at h; exact h)
      rw [hba, hbb] at HW
      clear hno hall hba hbb
      cases ba with
      | false =>
        go_wp2_with fail
        refine (unhide H1).mono ?_
        rintro e w2 ⟨rfl, d2⟩
        have hb2 := below_after hb d2
        clear H1 H2 d2 hb
        go_wp2
        go_ret
        exact ⟨ret_bool (unhide HW).symm, hb2⟩
      | true =>
        go_wp2_with fail
        refine (unhide H1).mono ?_
        rintro e w2 ⟨rfl, d2⟩
        have H3 := hide (unhide H2 w2 d2)
        have hb2 := below_after hb d2
        clear H1 H2 d2 hb
        go_wp2_with fail
        refine (unhide H3).mono ?_
        rintro e w3 ⟨rfl, d3⟩
        have hb3 := below_after hb2 d3
        clear H3 d3 hb2
        go_wp2
        go_ret
        exact ⟨ret_bool (by rw [unhide HW]; rfl), hb3⟩
end Go.Proofs.YtoiipedomgefaaaGreatDoor


/-
  spec.IdentityPerm and impl.IdentityPerm, by their contracts.
-/

namespace Go.Proofs.YtoiipedomgefaaaGreatDoor
set_option maxRecDepth 100000
open Go.RowKit

theorem Ints.of_whole {w : World} {g B n c : Nat} {t : TypeId} (ht : t ≠ 36) {l : List Int} (hg : Whole w g t (arr l)) (hB : B ≤ g) (hn : n ≤ l.length) (hnc : n ≤ c) : Ints w B (.slice (some ⟨g, 0, none⟩) n c) (l.take n) := by
  have hl : (l.take n).length = n := by rw [List.length_take]; omega
  unfold Ints
  rw [hl]
  refine ⟨by rw [i64_length, hl], .inr ⟨g, c, arr l, t, rfl, hB, hg, ⟨hnc, by rw [arr_size]; exact hn⟩, ?_, ht⟩⟩
  unfold arr i64s
  rw [List.map_take]

set_option maxRecDepth 100000 in
set_option maxHeartbeats 400000 in
theorem sid_any (m : Int) (hm : -9223372036854775808 ≤ m ∧ m ≤ 9223372036854775807) (w : World) :
    Calls Tryz.prog 59 #[.int .i64 m] w (GivesI w (idR m)) := by
  obtain ⟨i0, hi, hz0, hz1, hz2⟩ := info_parts intInfo
  obtain ⟨hm1, hm2⟩ := hm
  have hst := own0 w w.heap.size (Nat.le_refl _)
  have hbel := (Below.refl w.heap.size w).alloc (Nat.le_refl _) (.cells #[] 3)
  by_cases hin : 1 ≤ m ∧ m ≤ 8
  · rw [idR_yes hin.1 hin.2]
    obtain ⟨n, rfl⟩ : ∃ n : Nat, m = (n : Int) := ⟨m.toNat, by omega⟩
    have hn8 : n ≤ 8 := by omega
    clear hin hm1 hm2
    rw [Int.toNat_natCast]
    have h8b : decide ((n : Int) ≤ 8) = true := by simp; omega
    go_enter Tryz.func59, Tryz.ntmps59
    go_wp2
    go_loopw [3, 4] (fun v i wr => ∃ k : Nat, k ≤ n ∧ i = .int .i64 ((k : Int) + 1) ∧ Below w.heap.size w wr ∧ wr.ownsRow w.heap.size 3 1 v k (i64s (upTo k))) (fun _ i _ => n + 1 - (intOf i).toNat)
    case atStart => exact ⟨0, Nat.zero_le _, rfl, hbel, hst⟩
    case round =>
      obtain ⟨k, hk, rfl, hbw, hown⟩ := hrel
      clear hst hbel
      by_cases hlt : k < n
      · have hlt' : (k : Int) + 1 ≤ (n : Int) := by omega
        have e : i64s (upTo k) ++ [.int .i64 ((k : Int) + 1)] = i64s (upTo (k + 1)) := by rw [upTo_step]; unfold i64s; simp
        have HE := hide e
        clear e
        go_wp2_with (first
          | (at_builtin; refine wpList_append_one rfl (.tmp 15) (.tmp 17) 36 rfl w.heap.size 3 i0 (.int .i64 0) 8 Tryz.underlying36 hi hz0 hz1 hz2 rfl w wr _ _ _ rfl hown (.int .i64 ((k : Int) + 1)) rfl rfl rfl (by omega) (by simp only [maxLen]; omega) hbw hbw.size ?_; intro v2 w2 hown2 hb2 hg2; clear hg2))
        rw [unhide HE] at hown2
        clear hown hbw HE
        go_roundw
        case rel => exact ⟨k + 1, by omega, by go_num, hb2, hown2⟩
        case measure => simp [intOf]; omega
      · obtain rfl : n = k := by omega
        have hlt' : ¬ ((n : Int) + 1 ≤ (n : Int)) := by omega
        have hI : Ints wr w.heap.size u3 (upTo n) := Ints.of_own hown
        clear hown
        go_wp2
        go_ret
        exact GivesI.mk hI hbw
  · rw [idR_no hin]
    have hI := Ints.made0 w w.heap.size (Nat.le_refl _)
    by_cases h1 : 1 ≤ m
    · have h8 : 8 < m := by omega
      have h8b : decide (m ≤ 8) = false := by simp; omega
      clear hin hst
      go_enter Tryz.func59, Tryz.ntmps59
      go_wp2
      go_loopw [3, 4] (fun v i wr => i = .int .i64 1 ∧ v = .slice (some ⟨w.heap.size, 0, none⟩) 0 0 ∧ wr = w.alloc (.cells #[] 3)) (fun _ _ _ => 0)
      case atStart => exact ⟨rfl, rfl, rfl⟩
      case round =>
        obtain ⟨rfl, rfl, rfl⟩ := hrel
        go_wp2
        go_ret
        exact GivesI.mk hI hbel
    · have h1' : m < 1 := by omega
      clear hin hst
      go_enter Tryz.func59, Tryz.ntmps59
      go_wp2
      go_loopw [3, 4] (fun v i wr => i = .int .i64 1 ∧ v = .slice (some ⟨w.heap.size, 0, none⟩) 0 0 ∧ wr = w.alloc (.cells #[] 3)) (fun _ _ _ => 0)
      case atStart => exact ⟨rfl, rfl, rfl⟩
      case round =>
        obtain ⟨rfl, rfl, rfl⟩ := hrel
        go_wp2
        go_ret
        exact GivesI.mk hI hbel

end Go.Proofs.YtoiipedomgefaaaGreatDoor
