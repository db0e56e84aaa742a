
/-
  PLAIN: lists of lists in order, each once; the symmetries of a permutation. Nothing here speaks of the program.
-/
import Derived.Test.YtknjgehcaadomaaPermM
import Derived.Test.YtknjgehcaadomaaPermB
import Derived.Test.YtknjgehcaadomaaPermF
namespace Go.Proofs.Ytknjgehcaadomaa
set_option maxRecDepth 100000

/-! the order -/
theorem lexL_trans : ∀ {p q r : List Int}, lexL p q = true → lexL q r = true → lexL p r = true
  | [], _, _, h, _ => by simp [lexL] at h
  | _ :: _, [], _, h, _ => by simp [lexL] at h
  | _ :: _, _ :: _, [], _, h => by simp [lexL] at h
  | x :: p, y :: q, z :: r, h1, h2 => by
    rw [lexL] at h1 h2 ⊢
    by_cases e1 : x = y
    · subst e1
      rw [if_pos rfl] at h1
      by_cases e2 : x = z
      · subst e2
        rw [if_pos rfl] at h2 ⊢
        exact lexL_trans h1 h2
      · rw [if_neg e2] at h2 ⊢
        exact h2
    · rw [if_neg e1] at h1
      by_cases e2 : y = z
      · subst e2
        rw [if_neg e1]
        exact h1
      · rw [if_neg e2] at h2
        simp only [decide_eq_true_eq] at h1 h2
        rw [if_neg (by omega)]
        simp only [decide_eq_true_eq]
        omega
theorem lexL_total : ∀ {p q : List Int}, p.length = q.length → lexL p q = false → lexL q p = false → p = q
  | [], [], _, _, _ => rfl
  | [], _ :: _, h, _, _ => by simp at h
  | _ :: _, [], h, _, _ => by simp at h
  | x :: p, y :: q, h, h1, h2 => by
    rw [lexL] at h1 h2
    by_cases e : x = y
    · subst e
      rw [if_pos rfl] at h1 h2
      rw [lexL_total (by simpa using h) h1 h2]
    · rw [if_neg e] at h1
      rw [if_neg (fun h => e h.symm)] at h2
      simp only [decide_eq_false_iff_not] at h1 h2
      omega
theorem befL_irrefl (p : List Int) : befL p p = false := by rw [befL_eq rfl]; exact lexL_same p
theorem befL_trans {p q r : List Int} (h1 : befL p q = true) (h2 : befL q r = true) : befL p r = true := by
  unfold befL at h1 h2 ⊢
  by_cases e1 : p.length = q.length
  · rw [if_pos e1] at h1
    by_cases e2 : q.length = r.length
    · rw [if_pos e2] at h2
      rw [if_pos (by omega)]
      exact lexL_trans h1 h2
    · rw [if_neg e2] at h2
      rw [if_neg (by omega)]
      simp only [decide_eq_true_eq] at h2 ⊢
      omega
  · rw [if_neg e1] at h1
    simp only [decide_eq_true_eq] at h1
    by_cases e2 : q.length = r.length
    · rw [if_neg (by omega)]
      simp only [decide_eq_true_eq]
      omega
    · rw [if_neg e2] at h2
      simp only [decide_eq_true_eq] at h2
      rw [if_neg (by omega)]
      simp only [decide_eq_true_eq]
      omega
theorem befL_total {p q : List Int} (h1 : befL p q = false) (h2 : befL q p = false) : p = q := by
  unfold befL at h1 h2
  by_cases e : p.length = q.length
  · rw [if_pos e] at h1
    rw [if_pos e.symm] at h2
    exact lexL_total e h1 h2
  · rw [if_neg e] at h1
    rw [if_neg (fun h => e h.symm)] at h2
    simp only [decide_eq_false_iff_not] at h1 h2
    omega
theorem befL_asymm {p q : List Int} (h : befL p q = true) : befL q p = false := by
  cases h2 : befL q p with
  | false => rfl
  | true => have := befL_trans h h2; rw [befL_irrefl] at this; cases this
theorem befL_of_ne {p q : List Int} (h : befL q p = false) (hne : p ≠ q) : befL p q = true := by
  cases h2 : befL p q with
  | true => rfl
  | false => exact absurd (befL_total h2 h) hne
/-- p is not behind q, q before r. -/
theorem befL_le_lt {p q r : List Int} (h1 : befL q p = false) (h2 : befL q r = true) : befL p r = true := by
  by_cases e : p = q
  · subst e; exact h2
  · exact befL_trans (befL_of_ne h1 e) h2

/-! in order, each once -/
def Asc (l : List (List Int)) : Prop := l.Pairwise fun a b => befL a b = true
theorem asc_unique : ∀ {a b : List (List Int)}, Asc a → Asc b → (∀ x, x ∈ a ↔ x ∈ b) → a = b
  | [], [], _, _, _ => rfl
  | [], y :: b, _, _, h => by have := (h y).2 (by simp); simp at this
  | x :: a, [], _, _, h => by have := (h x).1 (by simp); simp at this
  | x :: a, y :: b, ha, hb, h => by
    have ha' := List.pairwise_cons.1 ha
    have hb' := List.pairwise_cons.1 hb
    have e : x = y := by
      rcases List.mem_cons.1 ((h x).1 (by simp)) with e | hx
      · exact e
      · rcases List.mem_cons.1 ((h y).2 (by simp)) with e | hy
        · exact e.symm
        · have h1 := hb'.1 x hx
          have h2 := ha'.1 y hy
          rw [befL_asymm h1] at h2
          cases h2
    subst e
    have : a = b := asc_unique ha'.2 hb'.2 fun z => by
      have hz := h z
      constructor
      · intro hin
        rcases List.mem_cons.1 (hz.1 (by simp [hin])) with e | h2
        · subst e
          have := ha'.1 z hin
          rw [befL_irrefl] at this
          cases this
        · exact h2
      · intro hin
        rcases List.mem_cons.1 (hz.2 (by simp [hin])) with e | h2
        · subst e
          have := hb'.1 z hin
          rw [befL_irrefl] at this
          cases this
        · exact h2
    rw [this]

/-- Where spec.l3Put stands. -/
def scanL (l : List (List Int)) (p : List Int) : Nat → Nat
  | 0 => 0
  | k + 1 => if befL p (l.getD k []) then scanL l p k else k + 1
theorem getD_of {α : Type} {l : List α} {k : Nat} {z d : α} (h : l[k]? = some z) : l.getD k d = z := by rw [List.getD_eq_getElem?_getD, h]; rfl
theorem scanL_yes {l : List (List Int)} {p z : List Int} {k : Nat} (hz : l[k]? = some z) (h : befL p z = true) : scanL l p (k + 1) = scanL l p k := by rw [scanL, getD_of hz, if_pos h]
theorem scanL_no {l : List (List Int)} {p z : List Int} {k : Nat} (hz : l[k]? = some z) (h : befL p z = false) : scanL l p (k + 1) = k + 1 := by rw [scanL, getD_of hz, if_neg (by simp [h])]
theorem scanL_le (l : List (List Int)) (p : List Int) : ∀ k, scanL l p k ≤ k
  | 0 => Nat.le_refl _
  | k + 1 => by
    rw [scanL]
    by_cases h : befL p (l.getD k []) = true
    · rw [if_pos h]; have := scanL_le l p k; omega
    · rw [if_neg h]; exact Nat.le_refl _
theorem scanL_above (l : List (List Int)) (p : List Int) : ∀ k j, scanL l p k ≤ j → j < k → befL p (l.getD j []) = true
  | 0, j, _, h => by omega
  | k + 1, j, h1, h2 => by
    rw [scanL] at h1
    by_cases h : befL p (l.getD k []) = true
    · rw [if_pos h] at h1
      by_cases e : j = k
      · subst e; exact h
      · exact scanL_above l p k j h1 (by omega)
    · rw [if_neg h] at h1; omega
theorem scanL_at (l : List (List Int)) (p : List Int) : ∀ k m, scanL l p k = m + 1 → befL p (l.getD m []) = false
  | 0, m, h => by simp [scanL] at h
  | k + 1, m, h => by
    rw [scanL] at h
    by_cases hb : befL p (l.getD k []) = true
    · rw [if_pos hb] at h; exact scanL_at l p k m h
    · rw [if_neg hb] at h
      obtain rfl : k = m := by omega
      simpa using hb
def putL (l : List (List Int)) (p : List Int) : List (List Int) :=
  if 0 < scanL l p l.length ∧ l.getD (scanL l p l.length - 1) [] = p then l else l.take (scanL l p l.length) ++ [p] ++ l.drop (scanL l p l.length)
theorem putL_len (l : List (List Int)) (p : List Int) : l.length ≤ (putL l p).length ∧ (putL l p).length ≤ l.length + 1 := by
  unfold putL
  have := scanL_le l p l.length
  split
  · omega
  · simp; omega
theorem mem_putL {l : List (List Int)} {p x : List Int} : x ∈ putL l p ↔ x ∈ l ∨ x = p := by
  unfold putL
  split
  · next h =>
    constructor
    · exact .inl
    · rintro (h1 | rfl)
      · exact h1
      · have hlt : scanL l x l.length - 1 < l.length := by have := scanL_le l x l.length; omega
        have := h.2
        rw [List.getD_eq_getElem?_getD, List.getElem?_eq_getElem hlt] at this
        exact this ▸ List.getElem_mem hlt
  · have := List.take_append_drop (scanL l p l.length) l
    constructor
    · intro h
      simp only [List.mem_append, List.mem_singleton] at h
      rcases h with (h | h) | h
      · exact .inl (List.mem_of_mem_take h)
      · exact .inr h
      · exact .inl (List.mem_of_mem_drop h)
    · rintro (h | rfl)
      · rw [← this, List.mem_append] at h
        simp only [List.mem_append, List.mem_singleton]
        rcases h with h | h
        · exact .inl (.inl h)
        · exact .inr h
      · simp
theorem asc_putL {l : List (List Int)} {p : List Int} (h : Asc l) : Asc (putL l p) := by
  unfold putL
  split
  · exact h
  · next hno =>
    have hle := scanL_le l p l.length
    have hab := scanL_above l p l.length
    have hat := scanL_at l p l.length
    generalize scanL l p l.length = s at *
    have hlow : ∀ a ∈ l.take s, befL a p = true := by
      intro a ha
      obtain ⟨i, hi, rfl⟩ := List.getElem_of_mem ha
      rw [List.length_take] at hi
      rw [List.getElem_take]
      have h1 := hat (s - 1) (by omega)
      have h2 : l.getD (s - 1) [] ≠ p := fun e => hno ⟨by omega, e⟩
      rw [List.getD_eq_getElem?_getD, List.getElem?_eq_getElem (by omega : s - 1 < l.length)] at h1 h2
      have h3 := befL_of_ne h1 h2
      by_cases e : i = s - 1
      · subst e; exact h3
      · exact befL_trans (List.pairwise_iff_getElem.1 h i (s - 1) (by omega) (by omega) (by omega)) h3
    have hup : ∀ b ∈ l.drop s, befL p b = true := by
      intro b hb
      obtain ⟨i, hi, rfl⟩ := List.getElem_of_mem hb
      rw [List.length_drop] at hi
      rw [List.getElem_drop]
      have := hab (s + i) (by omega) (by omega)
      rwa [List.getD_eq_getElem?_getD, List.getElem?_eq_getElem (by omega : s + i < l.length)] at this
    unfold Asc
    rw [List.append_assoc, List.pairwise_append]
    refine ⟨h.sublist (List.take_sublist _ _), ?_, ?_⟩
    · rw [List.singleton_append, List.pairwise_cons]
      exact ⟨hup, h.sublist (List.drop_sublist _ _)⟩
    · intro a ha b hb
      rw [List.singleton_append, List.mem_cons] at hb
      rcases hb with rfl | hb
      · exact hlow a ha
      · exact befL_trans (hlow a ha) (hup b hb)
def ordL (l : List (List Int)) (k : Nat) : List (List Int) := (l.take k).foldl putL []
theorem ordL_zero (l : List (List Int)) : ordL l 0 = [] := by simp [ordL]
theorem ordL_step {l : List (List Int)} {k : Nat} {z : List Int} (h : l[k]? = some z) : ordL l (k + 1) = putL (ordL l k) z := by
  unfold ordL
  rw [List.take_add_one, h]
  simp
theorem foldl_put : ∀ (l : List (List Int)) (a : List (List Int)), Asc a → Asc (l.foldl putL a) ∧ (∀ x, x ∈ l.foldl putL a ↔ x ∈ a ∨ x ∈ l) ∧ (l.foldl putL a).length ≤ a.length + l.length
  | [], a, h => ⟨h, fun x => by simp, by simp⟩
  | p :: l, a, h => by
    obtain ⟨h1, h2, h3⟩ := foldl_put l (putL a p) (asc_putL h)
    refine ⟨h1, fun x => ?_, ?_⟩
    · rw [List.foldl_cons, h2 x, mem_putL, List.mem_cons, or_assoc]
    · have := (putL_len a p).2
      rw [List.foldl_cons, List.length_cons]
      omega
theorem ordL_asc (l : List (List Int)) (k : Nat) : Asc (ordL l k) := (foldl_put _ [] List.Pairwise.nil).1
theorem ordL_mem {l : List (List Int)} {k : Nat} {x : List Int} : x ∈ ordL l k ↔ x ∈ l.take k := by
  unfold ordL
  rw [(foldl_put _ [] List.Pairwise.nil).2.1 x]
  simp
theorem ordL_len (l : List (List Int)) (k : Nat) : (ordL l k).length ≤ l.length := by
  have := (foldl_put (l.take k) [] List.Pairwise.nil).2.2
  unfold ordL
  rw [List.length_take] at this
  simp only [List.length_nil] at this
  omega
def allP (l : List (List Int)) : Bool := l.all isP
theorem allP_no {l : List (List Int)} {z : List Int} (h : z ∈ l) (hz : isP z = false) : allP l = false := by
  unfold allP
  rw [List.all_eq_false]
  exact ⟨z, h, by simp [hz]⟩
theorem allP_at {l : List (List Int)} {z : List Int} (h : allP l = true) (hz : z ∈ l) : isP z = true := by
  unfold allP at h
  rw [List.all_eq_true] at h
  exact h z hz
theorem allP_yes {l : List (List Int)} (h : ∀ z ∈ l, isP z = true) : allP l = true := by
  unfold allP
  rw [List.all_eq_true]
  exact h
def ordR (l : List (List Int)) : List (List Int) := if allP l then ordL l l.length else []
theorem ordR_yes {l : List (List Int)} (h : allP l = true) : ordR l = ordL l l.length := by unfold ordR; rw [if_pos h]
theorem ordR_no {l : List (List Int)} (h : allP l = false) : ordR l = [] := by unfold ordR; rw [if_neg (by simp [h])]
theorem ordR_len (l : List (List Int)) : (ordR l).length ≤ l.length := by
  cases h : allP l with
  | true => rw [ordR_yes h]; exact ordL_len _ _
  | false => rw [ordR_no h]; exact Nat.zero_le _
theorem ordR_mem {l : List (List Int)} {x : List Int} (h : x ∈ ordR l) : isP x = true := by
  cases hp : allP l with
  | true =>
    rw [ordR_yes hp, ordL_mem, List.take_length] at h
    exact allP_at hp h
  | false => rw [ordR_no hp] at h; simp at h

/-! neighbors that are equal, left out -/
section
variable {α : Type} (f : α → List Int)
/-- Of the first k the ones that differ from the one before. -/
def keepN (xs : List α) : Nat → List α
  | 0 => []
  | k + 1 => match xs[k]? with
    | none => keepN xs k
    | some x => if 0 < k ∧ (xs[k - 1]?).map f = some (f x) then keepN xs k else keepN xs k ++ [x]
variable {f}
theorem keepN_same {xs : List α} {k : Nat} {x y : α} (h : xs[k]? = some x) (hk : 0 < k) (hy : xs[k - 1]? = some y) (he : f y = f x) : keepN f xs (k + 1) = keepN f xs k := by
  rw [keepN, h]
  simp only
  rw [if_pos ⟨hk, by rw [hy, Option.map_some, he]⟩]
theorem keepN_new {xs : List α} {k : Nat} {x y : α} (h : xs[k]? = some x) (hy : xs[k - 1]? = some y) (he : f y ≠ f x) : keepN f xs (k + 1) = keepN f xs k ++ [x] := by
  rw [keepN, h]
  simp only
  rw [if_neg]
  rintro ⟨_, e⟩
  rw [hy, Option.map_some] at e
  exact he (Option.some.inj e)
theorem keepN_one {xs : List α} {x : α} (h : xs[0]? = some x) : keepN f xs 1 = [x] := by
  rw [keepN, h]
  simp only
  rw [if_neg (by omega), keepN]
  rfl
theorem keepN_sub (xs : List α) : ∀ k, (keepN f xs k).Sublist (xs.take k)
  | 0 => by simp [keepN]
  | k + 1 => by
    rw [keepN]
    cases h : xs[k]? with
    | none =>
      simp only
      refine (keepN_sub xs k).trans ?_
      rw [List.take_add_one, h]
      simp
    | some x =>
      simp only
      rw [List.take_add_one, h]
      split
      · exact (keepN_sub xs k).trans (List.sublist_append_left _ _)
      · exact (keepN_sub xs k).append (List.Sublist.refl _)
theorem keepN_sorted {xs : List α} (hs : ∀ (i j : Nat) (x y : α), i < j → xs[i]? = some x → xs[j]? = some y → befL (f y) (f x) = false) :
    ∀ k, k ≤ xs.length → Asc ((keepN f xs k).map f) ∧ ∀ z, z ∈ (keepN f xs k).map f ↔ z ∈ (xs.take k).map f
  | 0, _ => ⟨by simp [keepN, Asc], fun z => by simp [keepN]⟩
  | k + 1, hk => by
    obtain ⟨h1, h2⟩ := keepN_sorted hs k (by omega)
    have hx : xs[k]? = some xs[k] := List.getElem?_eq_getElem (by omega)
    have ht : xs.take (k + 1) = xs.take k ++ [xs[k]] := by rw [List.take_add_one, hx]; rfl
    generalize xs[k] = x at hx ht
    cases k with
    | zero =>
      rw [keepN_one hx, ht]
      simp [Asc]
    | succ k =>
      have hy : xs[k]? = some xs[k] := List.getElem?_eq_getElem (by omega)
      generalize xs[k] = y at hy
      by_cases e : f y = f x
      · rw [keepN_same hx (by omega) (by simpa using hy) e, ht]
        refine ⟨h1, fun z => ?_⟩
        rw [h2 z, List.map_append, List.mem_append]
        simp only [List.map_cons, List.map_nil, List.mem_singleton]
        constructor
        · exact .inl
        · rintro (h | h)
          · exact h
          · subst h
            rw [← e]
            refine List.mem_map.2 ⟨y, ?_, rfl⟩
            rw [List.take_add_one, hy]
            simp
      · rw [keepN_new hx (by simpa using hy) e, ht]
        refine ⟨?_, fun z => ?_⟩
        · unfold Asc
          rw [List.map_append, List.pairwise_append]
          refine ⟨h1, by simp, fun a ha b hb => ?_⟩
          simp only [List.map_cons, List.map_nil, List.mem_singleton] at hb
          subst hb
          obtain ⟨a', ha', rfl⟩ := List.mem_map.1 ((h2 a).1 ha)
          obtain ⟨i, hi, rfl⟩ := List.getElem_of_mem ha'
          rw [List.length_take] at hi
          rw [List.getElem_take]
          have hyx : befL (f y) (f x) = true := befL_of_ne (hs k (k + 1) y x (by omega) hy hx) e
          by_cases ei : i = k
          · subst ei
            have : xs[i] = y := by
              rw [List.getElem?_eq_getElem (by omega)] at hy
              exact Option.some.inj hy
            rw [this]; exact hyx
          · exact befL_le_lt (hs i k _ y (by omega) (List.getElem?_eq_getElem (by omega)) hy) hyx
        · rw [List.map_append, List.map_append, List.mem_append, List.mem_append, h2 z]
end

/-! the symmetries -/
/-- n + 1 - v for each v. -/
def cplL (p : List Int) : List Int := p.map fun v => (p.length : Int) + 1 - v
theorem cplL_length (p : List Int) : (cplL p).length = p.length := by simp [cplL]
theorem cplL_at {p : List Int} {k : Nat} {z : Int} (h : p[k]? = some z) : (cplL p)[k]? = some ((p.length : Int) + 1 - z) := by
  unfold cplL
  rw [List.getElem?_map, h]; rfl
theorem isP_cpl {p : List Int} (h : isP p = true) : isP (cplL p) = true := by
  rw [isP_true] at h ⊢
  obtain ⟨h1, h2, h3⟩ := h
  refine ⟨by rw [cplL_length]; exact h1, fun x hx => ?_, ?_⟩
  · unfold cplL at hx
    obtain ⟨v, hv, rfl⟩ := List.mem_map.1 hx
    have := h2 v hv
    rw [cplL_length]
    omega
  · unfold cplL
    rw [List.nodup_iff_pairwise_ne, List.pairwise_map]
    exact h3.imp fun hne e => hne (by omega)
theorem isP_rev {p : List Int} (h : isP p = true) : isP p.reverse = true := by
  rw [isP_true] at h ⊢
  obtain ⟨h1, h2, h3⟩ := h
  refine ⟨by rw [List.length_reverse]; exact h1, fun x hx => by rw [List.length_reverse]; exact h2 x (List.mem_reverse.1 hx), ?_⟩
  rw [List.nodup_iff_pairwise_ne, List.pairwise_reverse]
  exact (List.nodup_iff_pairwise_ne.1 h3).imp fun h e => h e.symm
theorem invFill_at {l : List Int} (hr : ∀ x ∈ l, 1 ≤ x ∧ x ≤ (l.length : Int)) (hn : l.Nodup) : ∀ k i z, i < k → k ≤ l.length → l[i]? = some z → (invFill l k)[z.toNat - 1]? = some ((i : Int) + 1)
  | 0, i, z, h, _, _ => by omega
  | k + 1, i, z, h, hk, hz => by
    have hy : l[k]? = some l[k] := List.getElem?_eq_getElem (by omega)
    generalize l[k] = y at hy
    rw [← invFill_step hy]
    have hzr := hr z (List.mem_of_getElem? hz)
    have hyr := hr y (List.mem_of_getElem? hy)
    by_cases e : i = k
    · subst e
      obtain rfl : y = z := by rw [hy] at hz; exact Option.some.inj hz
      rw [List.getElem?_set_self (by rw [invFill_length]; omega)]
    · have hne : y ≠ z := fun e2 => by
        subst e2
        have hi : i < l.length := by omega
        rw [List.getElem?_eq_getElem hi] at hz
        rw [List.getElem?_eq_getElem (by omega : k < l.length)] at hy
        have := (List.pairwise_iff_getElem.1 (List.nodup_iff_pairwise_ne.1 hn)) i k hi (by omega) (by omega)
        exact this ((Option.some.inj hz).trans (Option.some.inj hy).symm)
      rw [List.getElem?_set_ne (by omega)]
      exact invFill_at hr hn k i z (by omega) (by omega) hz
theorem isP_inv {p : List Int} (h : isP p = true) : isP (invFill p p.length) = true := by
  rw [isP_true] at h ⊢
  obtain ⟨h1, h2, h3⟩ := h
  have hat := fun i z hi hz => invFill_at h2 h3 p.length i z hi (Nat.le_refl _) hz
  have hrange : ∀ x ∈ invFill p p.length, 1 ≤ x ∧ x ≤ ((invFill p p.length).length : Int) := by
    intro x hx
    rw [invFill_length]
    obtain ⟨j, hj, rfl⟩ := List.getElem_of_mem hx
    rw [invFill_length] at hj
    have hin := (nodup_iff_all h2).1 h3 j hj
    obtain ⟨i, hi, he⟩ := List.getElem_of_mem hin
    have := hat i ((j : Int) + 1) hi (by rw [List.getElem?_eq_getElem hi, he])
    rw [show ((j : Int) + 1).toNat - 1 = j by omega, List.getElem?_eq_getElem (by rw [invFill_length]; exact hj)] at this
    rw [Option.some.inj this]
    omega
  refine ⟨by rw [invFill_length]; exact h1, hrange, (nodup_iff_all hrange).2 fun j hj => ?_⟩
  rw [invFill_length] at hj
  exact List.mem_of_getElem? (hat j p[j] hj (List.getElem?_eq_getElem hj))

/-- The steps that are asked for by the three lowest digits of k. -/
def sym1 (p : List Int) (k : Nat) : List Int := if k % 2 = 1 then invFill p p.length else p
def sym2 (p : List Int) (k : Nat) : List Int := if k / 2 % 2 = 1 then (sym1 p k).reverse else sym1 p k
def symL (p : List Int) (k : Nat) : List Int := if 4 ≤ k then cplL (sym2 p k) else sym2 p k
theorem sym1_isP {p : List Int} (h : isP p = true) (k : Nat) : isP (sym1 p k) = true := by
  unfold sym1
  split
  · exact isP_inv h
  · exact h
theorem sym2_isP {p : List Int} (h : isP p = true) (k : Nat) : isP (sym2 p k) = true := by
  unfold sym2
  split
  · exact isP_rev (sym1_isP h k)
  · exact sym1_isP h k
theorem symL_isP {p : List Int} (h : isP p = true) (k : Nat) : isP (symL p k) = true := by
  unfold symL
  split
  · exact isP_cpl (sym2_isP h k)
  · exact sym2_isP h k
def revR (p : List Int) : List Int := if isP p then p.reverse else []
def cplR (p : List Int) : List Int := if isP p then cplL p else []
def symOK (p : List Int) (k : Int) : Bool := isP p && decide (0 ≤ k ∧ k ≤ 7)
def symR (p : List Int) (k : Int) : List Int := if symOK p k then symL p k.toNat else []
theorem revR_yes {p : List Int} (h : isP p = true) : revR p = p.reverse := by unfold revR; rw [if_pos h]
theorem revR_no {p : List Int} (h : isP p = false) : revR p = [] := by unfold revR; rw [if_neg (by simp [h])]
theorem cplR_yes {p : List Int} (h : isP p = true) : cplR p = cplL p := by unfold cplR; rw [if_pos h]
theorem cplR_no {p : List Int} (h : isP p = false) : cplR p = [] := by unfold cplR; rw [if_neg (by simp [h])]
theorem symOK_yes {p : List Int} {k : Int} (h : isP p = true) (hk : 0 ≤ k ∧ k ≤ 7) : symOK p k = true := by simp [symOK, h, hk]
theorem symOK_no1 {p : List Int} {k : Int} (h : isP p = false) : symOK p k = false := by simp [symOK, h]
theorem symOK_no2 {p : List Int} {k : Int} (hk : ¬ (0 ≤ k ∧ k ≤ 7)) : symOK p k = false := by simp [symOK, hk]
theorem symR_yes {p : List Int} {k : Int} (h : symOK p k = true) : symR p k = symL p k.toNat := by unfold symR; rw [if_pos h]
theorem symR_no {p : List Int} {k : Int} (h : symOK p k = false) : symR p k = [] := by unfold symR; rw [if_neg (by simp [h])]
theorem revR_le (p : List Int) : (revR p).length ≤ 8 := by
  cases h : isP p with
  | true => rw [revR_yes h, List.length_reverse]; exact isP_le h
  | false => rw [revR_no h]; simp
theorem cplR_le (p : List Int) : (cplR p).length ≤ 8 := by
  cases h : isP p with
  | true => rw [cplR_yes h, cplL_length]; exact isP_le h
  | false => rw [cplR_no h]; simp
theorem symR_le (p : List Int) (k : Int) : (symR p k).length ≤ 8 := by
  cases h : symOK p k with
  | true =>
    rw [symR_yes h]
    simp only [symOK, Bool.and_eq_true] at h
    exact isP_le (symL_isP h.1 _)
  | false => rw [symR_no h]; simp
/-- The eight images, the first k. -/
def imgs (p : List Int) (k : Nat) : List (List Int) := (List.range k).map fun j => symL p j
theorem imgs_length (p : List Int) (k : Nat) : (imgs p k).length = k := by simp [imgs]
theorem imgs_at {p : List Int} {k j : Nat} (h : j < k) : (imgs p k)[j]? = some (symL p j) := by
  unfold imgs
  rw [List.getElem?_map, List.getElem?_range h]; rfl
theorem imgs_all {p : List Int} (h : isP p = true) (k : Nat) : allP (imgs p k) = true := allP_yes fun z hz => by
  unfold imgs at hz
  obtain ⟨j, _, rfl⟩ := List.mem_map.1 hz
  exact symL_isP h j
def clsR (p : List Int) : List (List Int) := if isP p then ordR (imgs p 8) else []
theorem clsR_yes {p : List Int} (h : isP p = true) : clsR p = ordR (imgs p 8) := by unfold clsR; rw [if_pos h]
theorem clsR_no {p : List Int} (h : isP p = false) : clsR p = [] := by unfold clsR; rw [if_neg (by simp [h])]
theorem clsR_len (p : List Int) : (clsR p).length ≤ 8 := by
  cases h : isP p with
  | true => rw [clsR_yes h]; have := ordR_len (imgs p 8); rw [imgs_length] at this; exact this
  | false => rw [clsR_no h]; simp
theorem clsR_mem {p x : List Int} (h : x ∈ clsR p) : isP x = true := by
  cases hp : isP p with
  | true => rw [clsR_yes hp] at h; exact ordR_mem h
  | false => rw [clsR_no hp] at h; simp at h
theorem clsR_ne {p : List Int} (h : isP p = true) : clsR p ≠ [] := by
  rw [clsR_yes h, ordR_yes (imgs_all h 8)]
  intro e
  have : symL p 0 ∈ ordL (imgs p 8) (imgs p 8).length := by
    rw [ordL_mem, List.take_length]
    exact List.mem_of_getElem? (imgs_at (by omega : 0 < 8))
  rw [e] at this
  simp at this
def leastR (p : List Int) : List Int := (clsR p).headD []
theorem leastR_le (p : List Int) : (leastR p).length ≤ 8 := by
  unfold leastR
  cases h : clsR p with
  | nil => simp
  | cons x l => exact isP_le (clsR_mem (p := p) (by rw [h]; simp))
def invol (p : List Int) : Bool := isP p && decide (p = invFill p p.length)
theorem invol_no {p : List Int} (h : isP p = false) : invol p = false := by simp [invol, h]
theorem invol_yes {p : List Int} (h : isP p = true) : invol p = decide (p = invFill p p.length) := by simp [invol, h]
end Go.Proofs.Ytknjgehcaadomaa
