/-
  PLAIN ARITHMETIC OF NUMERALS: two ways to say which texts are numerals within bounds, and that they agree. Nothing here speaks of the program.
-/
import Derived.Lib.ItoaNum
import Derived.Lib.AtoiTie
namespace Go.Proofs.YtlepfeffbpoobaaDoor

theorem decFrom_append : ∀ (a b : List UInt8) (acc n : Nat), Lib.decFrom acc a = some n → Lib.decFrom acc (a ++ b) = Lib.decFrom n b
  | [], b, acc, n, h => by simp only [Lib.decFrom, Option.some.injEq] at h; subst h; rfl
  | c :: r, b, acc, n, h => by
    simp only [List.cons_append, Lib.decFrom] at h ⊢
    cases hd : Lib.digitVal c with
    | none => rw [hd] at h; cases h
    | some d => rw [hd] at h; exact decFrom_append r b _ n h
theorem digit_byte {d : Nat} (h : d < 10) : (UInt8.ofNat (48 + d)).toNat = 48 + d := by
  rw [UInt8.toNat_ofNat']; exact Nat.mod_eq_of_lt (by omega)
theorem digitVal_byte {d : Nat} (h : d < 10) : Lib.digitVal (UInt8.ofNat (48 + d)) = some d := by
  unfold Lib.digitVal
  rw [digit_byte h, if_pos (by omega)]
  congr 1; omega
theorem decDigits_small {u : Nat} (h : u < 10) : Lib.decDigits u = [UInt8.ofNat (48 + u)] := Lib.decDigits_one h
theorem decDigits_big {u : Nat} (h : ¬ u < 10) : Lib.decDigits u = Lib.decDigits (u / 10) ++ [UInt8.ofNat (48 + u % 10)] := by rw [Lib.decDigits, dif_neg h]

theorem decFrom_decDigits : ∀ (k u : Nat), u < 10 ^ k → Lib.decFrom 0 (Lib.decDigits u) = some u := by
  intro k
  induction k with
  | zero => intro u h; obtain rfl : u = 0 := by simpa using h
            rw [decDigits_small (by omega)]; simp only [Lib.decFrom, digitVal_byte (show 0 < 10 by omega)]
  | succ k ih =>
    intro u h
    by_cases h10 : u < 10
    · rw [decDigits_small h10]; simp only [Lib.decFrom, digitVal_byte h10]; congr 1; omega
    · rw [decDigits_big h10, decFrom_append _ _ 0 (u / 10) (ih _ (by rw [Nat.pow_succ] at h; omega))]
      simp only [Lib.decFrom, digitVal_byte (show u % 10 < 10 by omega)]
      congr 1; omega
theorem lt_ten_pow (u : Nat) : u < 10 ^ u := Nat.lt_pow_self (by omega)
theorem decFrom_digits (u : Nat) : Lib.decFrom 0 (Lib.decDigits u) = some u := decFrom_decDigits u u (lt_ten_pow u)

theorem decDigits_mem : ∀ (k u : Nat), u < 10 ^ k → ∀ b ∈ Lib.decDigits u, 48 ≤ b.toNat ∧ b.toNat ≤ 57 := by
  intro k
  induction k with
  | zero =>
    intro u h b hb
    obtain rfl : u = 0 := by simpa using h
    rw [decDigits_small (by omega)] at hb
    obtain rfl := List.mem_singleton.1 hb
    rw [digit_byte (by omega)]; omega
  | succ k ih =>
    intro u h b hb
    by_cases h10 : u < 10
    · rw [decDigits_small h10] at hb
      obtain rfl := List.mem_singleton.1 hb
      rw [digit_byte h10]; omega
    · rw [decDigits_big h10] at hb
      rcases List.mem_append.1 hb with hb | hb
      · exact ih _ (by rw [Nat.pow_succ] at h; omega) b hb
      · obtain rfl := List.mem_singleton.1 hb
        rw [digit_byte (by omega)]; omega
theorem decDigits_ne (u : Nat) : Lib.decDigits u ≠ [] := by
  by_cases h10 : u < 10
  · rw [decDigits_small h10]; simp
  · rw [decDigits_big h10]; simp
theorem decDigits_head (u : Nat) : ∃ b r, Lib.decDigits u = b :: r ∧ 48 ≤ b.toNat ∧ b.toNat ≤ 57 := by
  cases h : Lib.decDigits u with
  | nil => exact absurd h (decDigits_ne u)
  | cons b r => exact ⟨b, r, rfl, decDigits_mem u u (lt_ten_pow u) b (by rw [h]; simp)⟩
theorem decDigits_pos (u : Nat) : 1 ≤ (Lib.decDigits u).length := by
  obtain ⟨b, r, h, _⟩ := decDigits_head u
  rw [h]; simp

theorem digits_le : ∀ (k u : Nat), (Lib.decDigits u).length ≤ k + 1 ↔ u < 10 ^ (k + 1) := by
  intro k
  induction k with
  | zero =>
    intro u
    by_cases h10 : u < 10
    · rw [decDigits_small h10]; simp; omega
    · rw [decDigits_big h10]
      have := decDigits_pos (u / 10)
      rw [List.length_append, List.length_singleton]
      omega
  | succ k ih =>
    intro u
    by_cases h10 : u < 10
    · rw [decDigits_small h10]
      have : 10 ^ 1 ≤ 10 ^ (k + 1 + 1) := Nat.pow_le_pow_right (by omega) (by omega)
      simp; omega
    · rw [decDigits_big h10, List.length_append]
      have := ih (u / 10)
      have hp : 10 ^ (k + 1 + 1) = 10 ^ (k + 1) * 10 := Nat.pow_succ ..
      simp only [List.length_cons, List.length_nil]
      rw [hp]
      omega

/-- What spec.l1Read takes. -/
def rdMag (most : Nat) (t : List UInt8) : Option Nat := if t.length < 1 ∨ most < t.length then none else Lib.decFrom 0 t
def rd (most : Nat) (l : List UInt8) : Option Int :=
  if l.head? = some 45 then (rdMag most l.tail).bind fun m => if Lib.itoa (-(m : Int)) = l then some (-(m : Int)) else none
  else (rdMag most l).bind fun m => if Lib.itoa (m : Int) = l then some (m : Int) else none

theorem itoa_nat (m : Nat) : Lib.itoa (m : Int) = Lib.decDigits m := by unfold Lib.itoa; rw [if_neg (by omega)]; simp
theorem itoa_minus {m : Nat} (h : 0 < m) : Lib.itoa (-(m : Int)) = 45 :: Lib.decDigits m := by unfold Lib.itoa; rw [if_pos (by omega)]; simp

theorem rd_iff (most : Nat) (l : List UInt8) (v : Int) : rd most l = some v ↔ Lib.itoa v = l ∧ (Lib.decDigits v.natAbs).length ≤ most := by
  unfold rd
  by_cases hneg : l.head? = some 45
  · rw [if_pos hneg]
    constructor
    · intro h
      obtain ⟨m, hm, hv⟩ := Option.bind_eq_some_iff.1 h
      by_cases hi : Lib.itoa (-(m : Int)) = l
      · rw [if_pos hi] at hv
        obtain rfl := Option.some.inj hv
        refine ⟨hi, ?_⟩
        unfold rdMag at hm
        by_cases hl : l.tail.length < 1 ∨ most < l.tail.length
        · rw [if_pos hl] at hm; cases hm
        · rcases Nat.eq_zero_or_pos m with h0 | h0
          · subst h0
            rw [show (-((0 : Nat) : Int)) = ((0 : Nat) : Int) by rfl, itoa_nat] at hi
            rw [← hi] at hneg
            obtain ⟨b, r, e, hb, _⟩ := decDigits_head 0
            rw [e] at hneg
            simp only [List.head?_cons, Option.some.injEq] at hneg
            subst hneg
            exact absurd hb (by decide)
          · rw [itoa_minus h0] at hi
            rw [← hi] at hl
            simp only [List.tail_cons] at hl
            rw [Int.natAbs_neg, Int.natAbs_natCast]
            omega
      · rw [if_neg hi] at hv; cases hv
    · rintro ⟨hi, hlen⟩
      by_cases hv : v < 0
      · obtain ⟨m, rfl⟩ : ∃ m : Nat, v = -(m : Int) := ⟨v.natAbs, by omega⟩
        have h0 : 0 < m := by omega
        have hi' := hi
        rw [itoa_minus h0] at hi'
        rw [Int.natAbs_neg, Int.natAbs_natCast] at hlen
        have hp := decDigits_pos m
        have : rdMag most l.tail = some m := by
          have ht : l.tail = Lib.decDigits m := by rw [← hi']; rfl
          rw [ht, rdMag, if_neg (by omega)]
          exact decFrom_digits m
        rw [this, Option.bind_some, if_pos hi]
      · obtain ⟨m, rfl⟩ : ∃ m : Nat, v = (m : Int) := ⟨v.natAbs, by omega⟩
        rw [itoa_nat] at hi
        rw [← hi] at hneg
        obtain ⟨b, r, e, hb, _⟩ := decDigits_head m
        rw [e] at hneg
        simp only [List.head?_cons, Option.some.injEq] at hneg
        subst hneg
        exact absurd hb (by decide)
  · rw [if_neg hneg]
    constructor
    · intro h
      obtain ⟨m, hm, hv⟩ := Option.bind_eq_some_iff.1 h
      by_cases hi : Lib.itoa (m : Int) = l
      · rw [if_pos hi] at hv
        obtain rfl := Option.some.inj hv
        refine ⟨hi, ?_⟩
        unfold rdMag at hm
        by_cases hl : l.length < 1 ∨ most < l.length
        · rw [if_pos hl] at hm; cases hm
        · rw [itoa_nat] at hi
          rw [← hi] at hl
          rw [Int.natAbs_natCast]
          omega
      · rw [if_neg hi] at hv; cases hv
    · rintro ⟨hi, hlen⟩
      by_cases hv : v < 0
      · obtain ⟨m, rfl⟩ : ∃ m : Nat, v = -(m : Int) := ⟨v.natAbs, by omega⟩
        rw [itoa_minus (by omega)] at hi
        rw [← hi] at hneg
        exact absurd rfl hneg
      · obtain ⟨m, rfl⟩ : ∃ m : Nat, v = (m : Int) := ⟨v.natAbs, by omega⟩
        have hi' := hi
        rw [itoa_nat] at hi'
        rw [Int.natAbs_natCast] at hlen
        have hp := decDigits_pos m
        have : rdMag most l = some m := by
          rw [← hi', rdMag, if_neg (by omega)]
          exact decFrom_digits m
        rw [this, Option.bind_some, if_pos hi]

/-- The library's reading of a numeral. -/
theorem atoi_itoa (v : Int) : Lib.atoi (Lib.itoa v) = some v := by
  by_cases hv : v < 0
  · obtain ⟨m, rfl⟩ : ∃ m : Nat, v = -(m : Int) := ⟨v.natAbs, by omega⟩
    rw [itoa_minus (by omega)]
    have : Lib.decNat (Lib.decDigits m) = some m := by
      unfold Lib.decNat
      rw [if_neg (by simp [decDigits_ne]), decFrom_digits]
    simp [Lib.atoi, this]
  · obtain ⟨m, rfl⟩ : ∃ m : Nat, v = (m : Int) := ⟨v.natAbs, by omega⟩
    rw [itoa_nat]
    have h : Lib.decNat (Lib.decDigits m) = some m := by
      unfold Lib.decNat
      rw [if_neg (by simp [decDigits_ne]), decFrom_digits]
    obtain ⟨b, r, e, hb, hb'⟩ := decDigits_head m
    rw [e] at h ⊢
    have h1 : (b == 45) = false := by
      rw [beq_eq_false_iff_ne]; rintro rfl; exact absurd hb (by decide)
    have h2 : (b == 43) = false := by
      rw [beq_eq_false_iff_ne]; rintro rfl; exact absurd hb (by decide)
    simp [Lib.atoi, h1, h2, h]
theorem atoiAll_itoa {v : Int} (h0 : -1000000000000 < v) (h1 : v < 1000000000000) : Lib.atoiAll (Lib.itoa v) = .ok v := by
  have hl : (Lib.itoa v).length ≤ 18 := by
    have := (digits_le 11 v.natAbs).2 (by show v.natAbs < 1000000000000; omega)
    unfold Lib.itoa
    by_cases hv : v < 0
    · rw [if_pos hv, List.length_cons]; omega
    · rw [if_neg hv, show v.toNat = v.natAbs by omega]; omega
  rw [Lib.atoiAll_short _ hl, atoi_itoa]
  rfl

/-- What impl.parseWithin takes: the number within the bounds whose numeral it is. -/
def within (low high : Int) (l : List UInt8) : Option Int :=
  match Lib.atoiAll l with
  | .ok v => if low ≤ v ∧ v ≤ high ∧ Lib.itoa v = l then some v else none
  | _ => none
theorem within_iff {low high : Int} (h0 : -1000000000000 < low) (h1 : high < 1000000000000) (l : List UInt8) (v : Int) : within low high l = some v ↔ low ≤ v ∧ v ≤ high ∧ Lib.itoa v = l := by
  constructor
  · intro h
    unfold within at h
    split at h
    · rename_i x _
      split at h
      · obtain rfl := Option.some.inj h; assumption
      · cases h
    · cases h
  · rintro ⟨a, b, c⟩
    have := atoiAll_itoa (v := v) (by omega) (by omega)
    rw [c] at this
    rw [within, this]
    exact if_pos ⟨a, b, c⟩

theorem read_int (l : List UInt8) : rd 12 l = within (-999999999999) 999999999999 l := by
  apply Option.ext
  intro v
  rw [rd_iff, within_iff (by omega) (by omega)]
  have := digits_le 11 v.natAbs
  have e : (10 : Nat) ^ (11 + 1) = 1000000000000 := by decide
  rw [e] at this
  constructor
  · rintro ⟨a, b⟩; have := this.1 b; exact ⟨by omega, by omega, a⟩
  · rintro ⟨a, b, c⟩; exact ⟨c, this.2 (by omega)⟩
/-- What spec.ParseNumber takes. -/
def rdNumber (l : List UInt8) : Option Int := (rd 6 l).bind fun v => if v < 0 then none else some v
theorem read_number (l : List UInt8) : rdNumber l = within 0 999999 l := by
  apply Option.ext
  intro v
  rw [within_iff (by omega) (by omega), rdNumber, Option.bind_eq_some_iff]
  have := digits_le 5 v.natAbs
  have e : (10 : Nat) ^ (5 + 1) = 1000000 := by decide
  rw [e] at this
  constructor
  · rintro ⟨x, hx, hv⟩
    split at hv
    · cases hv
    · obtain rfl := Option.some.inj hv
      have h := (rd_iff 6 l x).1 hx
      have := this.1 h.2
      exact ⟨by omega, by omega, h.1⟩
  · rintro ⟨a, b, c⟩
    exact ⟨v, (rd_iff 6 l v).2 ⟨c, this.2 (by omega)⟩, if_neg (by omega)⟩
end Go.Proofs.YtlepfeffbpoobaaDoor
