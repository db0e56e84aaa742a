/-
  Words and contracts that the laws lean on, bundled: ConI, PermT, NearX, TxtM, FmtS, Text, TxtS, TxtI, NearV.
-/
import Derived.Test.YtabfjmabiapgoaaB6
import Derived.Test.YtabfjmabiapgoaaB3
import Derived.Test.YtabfjmabiapgoaaB4
import Derived.Test.YtabfjmabiapgoaaB1
import Derived.Lib.ItoaNum
import Derived.Test.YtabfjmabiapgoaaB2
import Derived.Test.YtabfjmabiapgoaaProg
import Derived.Lib.ItoaLen
import Derived.Laws.IdiomStrings
import Derived.WalkSpells
import Derived.WalkLawsBesides
import Derived.Laws.BytesString
import Derived.Test.YtabfjmabiapgoaaB5
import Derived.Lib.ConvBytes
import Derived.Lib.AtoiErrMem
import Derived.Deep.RegionLaw

/-
  impl.ConsecutiveOf, by its contract.
-/

namespace Go.Proofs.Ytabfjmabiapgoaa
set_option maxRecDepth 100000
open Go.RowKit

theorem conJ_id {n : Nat} (hn : n ≤ 8) : conJ n = idR ((n : Int) - 1) := by
  have : ∀ m, m ≤ 8 → conJ m = idR ((m : Int) - 1) := by decide
  exact this n hn
set_option maxHeartbeats 1600000 in
theorem iconn_any (A : Option Addr) (n c B : Nat) (q : List Int) (w : World) (h : Arg w B A n c q) :
    Calls Try.prog 24 #[.slice A n c] w (GivesNB w (conQ q) (conR q) (isP q)) := by
  have hl := h.len
  obtain ⟨b, hb⟩ : ∃ b, isP q = b := ⟨_, rfl⟩
  have hbel := (Below.refl w.heap.size w).alloc (Nat.le_refl _) (.cells #[.slice none 0 0, .slice none 0 0] 27)
  have hW := Whole.new w 27 #[.slice none 0 0, .slice none 0 0]
  have H0 := hide (iisperm_any A n c B q b hb _ (h.below hbel).reads (h.below hbel).under h.le h.small)
  cases b with
  | false =>
    rw [show conQ q = [] by unfold conQ; rw [hb]; rfl, show conR q = [] by unfold conR; rw [hb]; rfl, hb]
    clear h hl hb
    go_enter Try.func24, Try.ntmps24
    go_wp2_with fail
    refine (unhide H0).mono ?_
    rintro e w1 ⟨rfl, hd⟩
    have hs1 : w.heap.size + 1 ≤ w1.heap.size := by have := hd.size; simpa using this
    have hW1 := hW.below hd (by simp)
    have hb1 := below_after hbel hd
    have r0 := hW1.cell 0
    have r1 := hW1.cell 1
    have g0 := hW1.frozen 0
    have g1 := hW1.frozen 1
    have hltr := hW1.lt
    simp only [List.getElem?_toArray, List.getElem?_cons_zero, List.getElem?_cons_succ] at r0 r1
    clear hd H0 hW hbel hs1
    go_wp2_with fail
    have hWe := (hW1.put 0 (.slice none 0 0)).put 1 (.slice none 0 0)
    refine bodyPost_ret (v := .tuple #[.agg #[.slice none 0 0, .slice none 0 0], .bool false]) (results_near Try.results24 _ _ w.heap.size 27 _ (0, 0) _ rfl hWe Try.underlying27 rfl nearInfo) rfl ?_
    exact nearB_end false (NearAt.none_ w1 (w.heap.size + 1)) (Nat.lt_succ_self _) hb1
  | true =>
    have hn8 : n ≤ 8 := by have := isP_le hb; omega
    rw [show conQ q = q by unfold conQ; rw [hb]; rfl, show conR q = idR ((n : Int) - 1) by unfold conR; rw [hb, hl]; exact conJ_id hn8, hb]
    have H1 := hide (show ∀ w1, Below w.heap.size w w1 → _ from fun w1 d => clone_any A n c B q w1 (h.below d))
    have hwn : IntKind.i64.wrap ((n : Int) - 1) = (n : Int) - 1 := by rw [IntKind.wrap_i64]; omega
    have H2 := hide (fun w2 => iid_any ((n : Int) - 1) (by omega) w2)
    have HL := hide hl
    clear h hl hb
    go_enter Try.func24, Try.ntmps24
    go_wp2_with fail
    refine (unhide H0).mono ?_
    rintro e w1 ⟨rfl, hd⟩
    have hs1 : w.heap.size + 1 ≤ w1.heap.size := by have := hd.size; simpa using this
    have hW1 := hW.below hd (by simp)
    have hb1 := below_after hbel hd
    have H3 := hide (unhide H1 w1 hb1)
    clear hd H0 hW hbel H1
    go_wp2_with fail
    refine (unhide H3).mono ?_
    rintro e w2 ⟨A2, c2, rfl, o2, d2⟩
    have H4 := hide (unhide H2 w2)
    clear H3 H2
    go_wp2_with fail
    refine (unhide H4).mono ?_
    rintro e w3 ⟨A3, c3, rfl, o3, d3⟩
    have hN : NearAt w3 (w.heap.size + 1) (.slice A2 q.length c2) (.slice A3 (idR ((n : Int) - 1)).length c3) q (idR ((n : Int) - 1)) := ⟨(o2.below d3).low hs1, o3.low (by have := d2.size; omega), apart o2.until_ o3.since (Nat.le_refl _)⟩
    have hR := (hW1.below d2 (by omega)).below d3 (by have := d2.size; omega)
    have hB := below_after (below_after hb1 d2) d3
    have r0 := hR.cell 0
    have r1 := hR.cell 1
    have g0 := hR.frozen 0
    have g1 := hR.frozen 1
    have hltr := hR.lt
    simp only [List.getElem?_toArray, List.getElem?_cons_zero, List.getElem?_cons_succ] at r0 r1
    have HN := hide (⟨hR, hN, hB⟩ : Whole w3 w.heap.size 27 #[.slice none 0 0, .slice none 0 0] ∧ NearAt w3 (w.heap.size + 1) (.slice A2 q.length c2) (.slice A3 (idR ((n : Int) - 1)).length c3) q (idR ((n : Int) - 1)) ∧ Below w.heap.size w w3)
    clear hR hN hB H4 o2 o3 d2 d3 hW1 hb1 hs1
    go_wp2_with fail
    obtain ⟨hR, hN, hB⟩ := unhide HN
    have hWe := (hR.put 0 (.slice A2 q.length c2)).put 1 (.slice A3 (idR ((n : Int) - 1)).length c3)
    refine bodyPost_ret (v := .tuple #[.agg #[.slice A2 q.length c2, .slice A3 (idR ((n : Int) - 1)).length c3], .bool true]) (results_near Try.results24 _ _ w.heap.size 27 _ (0, 0) _ rfl hWe Try.underlying27 rfl nearInfo) rfl ?_
    exact nearB_end true hN (Nat.lt_succ_self _) hB
end Go.Proofs.Ytabfjmabiapgoaa


/-
  PLAIN: a permutation's text, and back. Nothing here speaks of the program.
-/

namespace Go.Proofs.Ytabfjmabiapgoaa
set_option maxRecDepth 100000

def dgt (z : Int) : UInt8 := UInt8.ofNat (48 + z.toNat)
def textL (l : List Int) : List UInt8 := l.map dgt
theorem textL_length (l : List Int) : (textL l).length = l.length := by simp [textL]
theorem textL_nil : textL [] = [] := rfl
theorem textL_step {l : List Int} {k : Nat} {z : Int} (h : l[k]? = some z) : textL (l.take (k + 1)) = textL (l.take k) ++ [dgt z] := by unfold textL; rw [take_snoc_i h, List.map_append, List.map_singleton]
theorem itoa_one {z : Int} (h0 : 1 ≤ z) (h1 : z ≤ 8) : Lib.itoa z = [dgt z] := by
  rw [Lib.itoa, if_neg (by omega)]
  exact Lib.decDigits_one (by omega)
/-- The text's numbers as integers. -/
def textI (l : List Int) : List Int := l.map (48 + ·)
theorem textI_length (l : List Int) : (textI l).length = l.length := by simp [textI]
theorem textI_at {l : List Int} {k : Nat} {z : Int} (h : l[k]? = some z) : (textI l)[k]? = some (48 + z) := by unfold textI; rw [List.getElem?_map, h]; rfl
theorem push_list : ∀ (ns : List Int) (s : ByteArray), (ns.foldl (fun r n => r.push (UInt8.ofNat n.toNat)) s) = ⟨s.data ++ (ns.map fun n => UInt8.ofNat n.toNat).toArray⟩
  | [], s => by simp
  | n :: ns, s => by
    rw [List.foldl_cons, push_list ns]
    simp [ByteArray.push]
theorem textI_bytes {l : List Int} (h : ∀ z ∈ l, 0 ≤ z) : (textI l).map (fun n => UInt8.ofNat n.toNat) = textL l := by
  unfold textI textL
  rw [List.map_map]
  refine List.map_congr_left fun z hz => ?_
  have := h z hz
  simp only [Function.comp, dgt]
  congr 1
  omega

def ptext (l : List Int) : ByteArray := if isP l then (if l = [] then ⟨#[45]⟩ else ⟨(textL l).toArray⟩) else ByteArray.empty
theorem ptext_no {l : List Int} (h : isP l = false) : ptext l = ByteArray.empty := by unfold ptext; rw [if_neg (by simp [h])]
theorem ptext_nil {l : List Int} (h : isP l = true) (h0 : l.length = 0) : ptext l = ⟨#[45]⟩ := by unfold ptext; rw [if_pos h, if_pos (List.eq_nil_of_length_eq_zero h0)]
theorem ptext_yes {l : List Int} (h : isP l = true) (h0 : l.length ≠ 0) : ptext l = ⟨(textL l).toArray⟩ := by
  unfold ptext
  rw [if_pos h, if_neg (fun e => h0 (by rw [e]; rfl))]

/-- A text's numbers. -/
def tnums (s : ByteArray) : List Int := s.data.toList.map fun b => (b.toNat : Int) - 48
theorem tnums_length (s : ByteArray) : (tnums s).length = s.size := by
  unfold tnums
  rw [List.length_map, Array.length_toList]; rfl
theorem tnums_at {s : ByteArray} {k : Nat} (h : k < s.size) : (tnums s)[k]? = some ((s[k].toNat : Int) - 48) := by
  have hl : s.data.toList.length = s.size := by rw [Array.length_toList]; rfl
  unfold tnums
  rw [List.getElem?_map, List.getElem?_eq_getElem (by omega)]
  rfl
theorem tnums_small {s : ByteArray} : ∀ z ∈ tnums s, -48 ≤ z ∧ z ≤ 207 := by
  intro z hz
  unfold tnums at hz
  obtain ⟨b, _, rfl⟩ := List.mem_map.1 hz
  have := b.toNat_lt
  omega
def ppOK (s : ByteArray) : Bool := decide (s = ⟨#[45]⟩) || (decide (0 < s.size) && isP (tnums s))
def ppR (s : ByteArray) : List Int := if s = ⟨#[45]⟩ then [] else if ppOK s then tnums s else []
theorem ppOK_dash : ppOK ⟨#[45]⟩ = true := by simp [ppOK]
theorem ppR_dash : ppR ⟨#[45]⟩ = [] := by simp [ppR]
theorem ppOK_else {s : ByteArray} (h : s ≠ ⟨#[45]⟩) (h0 : 0 < s.size) : ppOK s = isP (tnums s) := by simp [ppOK, h, h0]
theorem ppOK_none {s : ByteArray} (h : s ≠ ⟨#[45]⟩) (h0 : s.size = 0) : ppOK s = false := by simp [ppOK, h, h0]
theorem ppR_yes {s : ByteArray} (h : s ≠ ⟨#[45]⟩) (hk : ppOK s = true) : ppR s = tnums s := by unfold ppR; rw [if_neg h, if_pos hk]
theorem ppR_no {s : ByteArray} (h : s ≠ ⟨#[45]⟩) (hk : ppOK s = false) : ppR s = [] := by unfold ppR; rw [if_neg h, if_neg (by simp [hk])]
theorem ppR_le (s : ByteArray) : (ppR s).length ≤ 8 := by
  by_cases h : s = ⟨#[45]⟩
  · subst h; rw [ppR_dash]; simp
  · cases hk : ppOK s with
    | false => rw [ppR_no h hk]; simp
    | true =>
      rw [ppR_yes h hk]
      by_cases h0 : 0 < s.size
      · rw [ppOK_else h h0] at hk
        exact isP_le hk
      · rw [tnums_length]; omega
end Go.Proofs.Ytabfjmabiapgoaa


/-
  PLAIN: the text of neighboring places, and back. Nothing here speaks of the program.
-/

namespace Go.Proofs.Ytabfjmabiapgoaa
set_option maxRecDepth 100000

theorem ints_unique : ∀ {a b : List Int}, a.Pairwise (· < ·) → b.Pairwise (· < ·) → (∀ x, x ∈ a ↔ x ∈ b) → a = b
  | [], [], _, _, _ => rfl
  | [], y :: b, _, _, h => by have := (h y).2 (by simp); simp at this
  | x :: a, [], _, _, h => by have := (h x).1 (by simp); simp at this
  | x :: a, y :: b, ha, hb, h => by
    have h1 := List.pairwise_cons.1 ha
    have h2 := List.pairwise_cons.1 hb
    have hxy : x = y := by
      rcases List.mem_cons.1 ((h x).1 (by simp)) with e | e
      · exact e
      · rcases List.mem_cons.1 ((h y).2 (by simp)) with e' | e'
        · exact e'.symm
        · have := h2.1 x e; have := h1.1 y e'; omega
    subst hxy
    rw [ints_unique h1.2 h2.2 fun z => by
      constructor
      · intro hz
        rcases List.mem_cons.1 ((h z).1 (by simp [hz])) with e | e
        · have := h1.1 z hz; omega
        · exact e
      · intro hz
        rcases List.mem_cons.1 ((h z).2 (by simp [hz])) with e | e
        · have := h2.1 z hz; omega
        · exact e]

/-- The text of the first k numbers. -/
def nearB (q J : List Int) : Nat → List UInt8
  | 0 => []
  | k + 1 => nearB q J k ++ ((if 0 < k ∧ ¬ (k : Int) ∈ J then [95] else []) ++ [dgt (at0 q k)])
def ntext (q J : List Int) : ByteArray := if nearOK q J then (if q = [] then ⟨#[45]⟩ else ⟨(nearB q J q.length).toArray⟩) else ByteArray.empty
theorem ntext_no {q J : List Int} (h : nearOK q J = false) : ntext q J = ByteArray.empty := by unfold ntext; rw [if_neg (by simp [h])]
theorem ntext_nil {q J : List Int} (h : nearOK q J = true) (h0 : q.length = 0) : ntext q J = ⟨#[45]⟩ := by unfold ntext; rw [if_pos h, if_pos (List.eq_nil_of_length_eq_zero h0)]
theorem ntext_yes {q J : List Int} (h : nearOK q J = true) (h0 : q.length ≠ 0) : ntext q J = ⟨(nearB q J q.length).toArray⟩ := by unfold ntext; rw [if_pos h, if_neg (fun e => h0 (by rw [e]; rfl))]
theorem nearB_len (q J : List Int) : ∀ k, (nearB q J k).length ≤ 2 * k
  | 0 => Nat.le_refl _
  | k + 1 => by
    have := nearB_len q J k
    rw [nearB]; split <;> simp <;> omega

/-- A text without what stands between. -/
def scanD (s : List UInt8) : List UInt8 := s.filter fun b => decide (b ≠ 95)
/-- The joined places that the first k bytes tell. -/
def scanJ (s : List UInt8) : Nat → List Int
  | 0 => []
  | k + 1 => if s[k]?.getD 0 = 95 then scanJ s k else if 0 < k ∧ s[k - 1]?.getD 0 ≠ 95 then scanJ s k ++ [((scanD (s.take k)).length : Int)] else scanJ s k
theorem scanJ_app (s t : List UInt8) : ∀ k, k ≤ s.length → scanJ (s ++ t) k = scanJ s k
  | 0, _ => rfl
  | k + 1, h => by
    rw [scanJ, scanJ, scanJ_app s t k (by omega), List.getElem?_append_left (by omega), List.getElem?_append_left (show k - 1 < s.length by omega), List.take_append_of_le_length (by omega)]
theorem dgt_ne {z : Int} (h0 : 1 ≤ z) (h1 : z ≤ 8) : dgt z ≠ 95 := by
  obtain ⟨n, rfl⟩ : ∃ n : Nat, z = (n : Int) := ⟨z.toNat, by omega⟩
  have h2 : n ≤ 8 := by omega
  have : ∀ m, m ≤ 8 → dgt ((m : Nat) : Int) ≠ 95 := by decide
  exact this n h2
theorem scan_near {q J : List Int} (hq : isP q = true) : ∀ k, k ≤ q.length → scanD (nearB q J k) = textL (q.take k) ∧ scanJ (nearB q J k) (nearB q J k).length = (((List.range k).filter fun (i : Nat) => decide (0 < i ∧ (i : Int) ∈ J)) : List Nat).map (fun (i : Nat) => (i : Int)) ∧ (0 < k → (nearB q J k)[(nearB q J k).length - 1]?.getD 0 ≠ 95)
  | 0, _ => ⟨rfl, rfl, fun h => by omega⟩
  | k + 1, h => by
    obtain ⟨h1, h2, h3⟩ := scan_near (J := J) hq k (by omega)
    have hr := isP_range hq (at0_some (show k < q.length by omega))
    have h8 := isP_le hq
    have hd := dgt_ne hr.1 (by omega)
    have hD : scanD [dgt (at0 q k)] = [dgt (at0 q k)] := by unfold scanD; rw [List.filter_cons_of_pos (by simpa using hd)]; rfl
    have ht : textL (q.take (k + 1)) = textL (q.take k) ++ [dgt (at0 q k)] := textL_step (at0_some (by omega))
    have hlen : (scanD (nearB q J k)).length = k := by rw [h1, textL_length, List.length_take]; omega
    rw [List.range_succ, List.filter_append, List.map_append]
    by_cases hs : 0 < k ∧ ¬ (k : Int) ∈ J
    · have e : nearB q J (k + 1) = (nearB q J k ++ [95]) ++ [dgt (at0 q k)] := by rw [nearB, if_pos hs, List.append_assoc]
      rw [e]
      refine ⟨?_, ?_, fun _ => ?_⟩
      · unfold scanD at h1 hD ⊢
        rw [List.filter_append, List.filter_append, h1, hD, ht]
        simp
      · rw [List.length_append, List.length_append, List.length_singleton, List.length_singleton, scanJ, if_neg (by simpa using hd), if_neg (by simp), scanJ_app _ _ _ (by simp), scanJ, if_pos (by simp), scanJ_app _ _ _ (Nat.le_refl _), h2]
        rw [List.filter_cons_of_neg (by simp [hs])]
        simp
      · simpa using hd
    · have e : nearB q J (k + 1) = nearB q J k ++ [dgt (at0 q k)] := by rw [nearB, if_neg hs, List.nil_append]
      rw [e]
      refine ⟨?_, ?_, fun _ => ?_⟩
      · unfold scanD at h1 hD ⊢
        rw [List.filter_append, h1, hD, ht]
      · rw [List.length_append, List.length_singleton, scanJ, if_neg (by simpa using hd), scanJ_app _ _ _ (Nat.le_refl _), h2]
        by_cases h0 : k = 0
        · subst h0
          rw [if_neg (by simp [nearB])]
          simp
        · have hp : 0 < (nearB q J k).length := by
            have h4 : (scanD (nearB q J k)).length ≤ (nearB q J k).length := List.length_filter_le _ _
            omega
          have hj : (k : Int) ∈ J := by
            by_cases hj : (k : Int) ∈ J
            · exact hj
            · exact absurd ⟨by omega, hj⟩ hs
          rw [if_pos ⟨hp, by rw [List.getElem?_append_left (by omega)]; exact h3 (by omega)⟩, List.take_append_of_le_length (Nat.le_refl _), List.take_length, hlen, List.filter_cons_of_pos (by simp [hj]; omega)]
          rfl
      · simpa using hd
theorem scan_back {q J : List Int} (h : nearOK q J = true) : scanD (nearB q J q.length) = textL q ∧ scanJ (nearB q J q.length) (nearB q J q.length).length = J := by
  obtain ⟨hq, hJ⟩ := nearOK_iff.1 h
  obtain ⟨h1, h2, _⟩ := scan_near (J := J) hq q.length (Nat.le_refl _)
  refine ⟨by rw [h1, List.take_length], ?_⟩
  rw [h2]
  refine ints_unique ?_ hJ.2 fun x => ?_
  · rw [List.pairwise_map]
    exact ((List.pairwise_lt_range (n := q.length)).sublist List.filter_sublist).imp fun h => by omega
  · rw [List.mem_map]
    constructor
    · rintro ⟨i, hi, rfl⟩
      rw [List.mem_filter, decide_eq_true_eq] at hi
      exact hi.2.2
    · intro hx
      have hr := hJ.1 x hx
      exact ⟨x.toNat, by rw [List.mem_filter, List.mem_range, decide_eq_true_eq]; exact ⟨by omega, by omega, by rw [show ((x.toNat : Nat) : Int) = x by omega]; exact hx⟩, by omega⟩
end Go.Proofs.Ytabfjmabiapgoaa


/-
  PLAIN: the bytes of a text with gaps put between them. Nothing here speaks of the program.
-/

namespace Go.Proofs.Ytabfjmabiapgoaa
set_option maxRecDepth 100000

/-- The first k bytes with a gap ahead of each whose place is not joined. -/
def gapB (J : List Int) (L : List UInt8) : Nat → List UInt8
  | 0 => []
  | k + 1 => gapB J L k ++ ((if 0 < k ∧ ¬ (k : Int) ∈ J then [95] else []) ++ [L.getD k 0])
theorem gapB_len (J : List Int) (L : List UInt8) : ∀ k, (gapB J L k).length ≤ 2 * k
  | 0 => Nat.le_refl _
  | k + 1 => by
    have := gapB_len J L k
    rw [gapB]; split <;> simp <;> omega
theorem gapB_yes {J : List Int} {L : List UInt8} {k : Nat} {b : UInt8} (hb : L[k]? = some b) (h : 0 < k ∧ ¬ (k : Int) ∈ J) : gapB J L (k + 1) = (gapB J L k ++ [95]) ++ [b] := by
  rw [gapB, if_pos h, List.getD_eq_getElem?_getD, hb, List.append_assoc]; rfl
theorem gapB_no {J : List Int} {L : List UInt8} {k : Nat} {b : UInt8} (hb : L[k]? = some b) (h : ¬ (0 < k ∧ ¬ (k : Int) ∈ J)) : gapB J L (k + 1) = gapB J L k ++ [b] := by
  rw [gapB, if_neg h, List.getD_eq_getElem?_getD, hb, List.nil_append]; rfl
theorem gapB_near (q J : List Int) : ∀ k, k ≤ q.length → gapB J (textL q) k = nearB q J k
  | 0, _ => rfl
  | k + 1, h => by
    have h1 : (textL q)[k]? = some (dgt (at0 q k)) := by unfold textL; rw [List.getElem?_map, at0_some (by omega)]; rfl
    rw [gapB, nearB, gapB_near q J k (by omega), List.getD_eq_getElem?_getD, h1]
    rfl
/-- The bytes of a permutation's text. -/
def ptextL (q : List Int) : List UInt8 := if q = [] then [45] else textL q
theorem ptext_list {q : List Int} (h : isP q = true) : ptext q = ⟨(ptextL q).toArray⟩ := by
  unfold ptextL
  by_cases h0 : q = []
  · rw [if_pos h0, ptext_nil h (by rw [h0]; rfl)]
  · rw [if_neg h0, ptext_yes h (fun e => h0 (List.eq_nil_of_length_eq_zero e))]
theorem ptextL_len {q : List Int} (h : isP q = true) : 1 ≤ (ptextL q).length ∧ (ptextL q).length ≤ 8 := by
  unfold ptextL
  have := isP_le h
  by_cases h0 : q = []
  · rw [if_pos h0]; simp
  · rw [if_neg h0, textL_length]
    have : q.length ≠ 0 := fun e => h0 (List.eq_nil_of_length_eq_zero e)
    omega
theorem gapB_text {q J : List Int} (h : nearOK q J = true) : ByteArray.mk (gapB J (ptextL q) (ptextL q).length).toArray = ntext q J := by
  unfold ptextL
  by_cases h0 : q = []
  · subst h0
    rw [if_pos rfl, ntext_nil h rfl]
    rfl
  · rw [if_neg h0, ntext_yes h (fun e => h0 (List.eq_nil_of_length_eq_zero e)), textL_length, gapB_near q J _ (Nat.le_refl _)]
end Go.Proofs.Ytabfjmabiapgoaa


/-
  spec.FormatInt, by its contract: the decimal numeral.
-/

namespace Go.Proofs.Ytabfjmabiapgoaa
set_option maxRecDepth 100000
open Go.RowKit

/-- What is still to be written of m, ahead of l. -/
def decR (m : Nat) (l : List UInt8) : List UInt8 := if m = 0 then l else Lib.decDigits m ++ l
theorem decR_step {m : Nat} (h : m ≠ 0) (l : List UInt8) : decR m l = decR (m / 10) (UInt8.ofNat (48 + m % 10) :: l) := by
  unfold decR
  rw [if_neg h]
  by_cases h10 : m < 10
  · rw [if_pos (by omega), Lib.decDigits_one h10, Nat.mod_eq_of_lt h10]; rfl
  · rw [if_neg (by omega)]
    rw [Lib.decDigits, dif_neg h10, List.append_assoc]; rfl

theorem cv_one {P : Program} {src dst e : TypeId} (hs : P.underlying src = some (.slice e)) (he : P.underlying e = some (.int .u8)) (hd : P.underlying dst = some .string) (W : World) (x : Int) :
    (convert src dst (.slice (some ⟨W.heap.size, 0, none⟩) 1 1)).run P (W.alloc (.cells #[.int .u8 x] e)) = .ok (.string ⟨#[UInt8.ofNat x.toNat]⟩) (W.alloc (.cells #[.int .u8 x] e)) := by
  rw [run_convert_bytes_string _ src dst e _ 1 1 hs he hd]
  have h := run_bytesToString (P := P) (W.alloc (.cells #[.int .u8 x] e)) ⟨W.heap.size, 0, none⟩ 1 1 [x] (by rw [show (1 : Nat) = ([Value.int .u8 x] : List Value).length from rfl]; exact run_loadCells_list (P := P) _ _ [Value.int .u8 x] (fun j v hj => by
    match j, hj with
    | 0, hj => simp at hj; subst hj; simp [Addr.add]))
  exact h

theorem one_app {b b' : UInt8} (l : List UInt8) (h : b = b') : Value.string (⟨#[b]⟩ ++ ⟨l.toArray⟩) = .string ⟨(b' :: l).toArray⟩ := by
  subst h
  congr 1
theorem neg_rem {m : Int} (h : m ≤ 0) : m.tmod 10 = -((m.natAbs % 10 : Nat) : Int) := by
  obtain ⟨u, rfl⟩ : ∃ u : Nat, m = -(u : Int) := ⟨m.natAbs, by omega⟩
  rw [Int.neg_tmod, Int.natAbs_neg, Int.natAbs_natCast]; rfl
theorem neg_quo {m : Int} (h : m ≤ 0) : m.tdiv 10 = -((m.natAbs / 10 : Nat) : Int) := by
  obtain ⟨u, rfl⟩ : ∃ u : Nat, m = -(u : Int) := ⟨m.natAbs, by omega⟩
  rw [Int.neg_tdiv, Int.natAbs_neg, Int.natAbs_natCast]; rfl
theorem left_short {m n : Int} {l : List UInt8} (h0 : -9223372036854775808 ≤ n) (h1 : n ≤ 9223372036854775807) (h : decR m.natAbs l = Lib.decDigits n.natAbs) : l.length ≤ 21 := by
  have h2 := Lib.itoa_length_le n h0 h1
  have h3 : (Lib.decDigits n.natAbs).length ≤ (Lib.itoa n).length := by
    unfold Lib.itoa
    by_cases hn : n < 0
    · rw [if_pos hn]; simp
    · rw [if_neg hn, show n.natAbs = n.toNat from by omega]; exact Nat.le_refl _
  have h4 : l.length ≤ (decR m.natAbs l).length := by
    unfold decR
    split <;> simp
  rw [h] at h4
  omega

set_option maxRecDepth 100000 in
set_option maxHeartbeats 1600000 in
theorem sfmt_any (n : Int) (h0 : -9223372036854775808 ≤ n) (h1 : n ≤ 9223372036854775807) (w : World) :
    Calls Try.prog 37 #[.int .i64 n] w fun e w' => e = .returned (.string ⟨(Lib.itoa n).toArray⟩) ∧ Below w.heap.size w w' := by
  by_cases hz : n = 0
  · subst hz
    go_enter Try.func37, Try.ntmps37
    go_wp2
    go_ret
    exact ⟨ret_str (by rw [show Lib.itoa 0 = [48] from by rw [Lib.itoa, if_neg (by omega)]; exact Lib.decDigits_one (by omega)]), Below.refl _ _⟩
  · by_cases hneg : n < 0
    · go_enter Try.func37, Try.ntmps37
      go_wp2
      go_loopw [0, 4] (fun nv o wr => ∃ (m : Int) (l : List UInt8), nv = .int .i64 m ∧ o = .string ⟨l.toArray⟩ ∧ m ≤ 0 ∧ -9223372036854775808 ≤ m ∧ Below w.heap.size w wr ∧ Hid (decR m.natAbs l = Lib.decDigits n.natAbs)) (fun nv _ _ => (intOf nv).natAbs)
      case atStart => exact ⟨n, [], rfl, rfl, by omega, h0, Below.refl _ _, by unfold Hid decR; rw [if_neg (by omega), List.append_nil]⟩
      case round =>
        obtain ⟨m, l, rfl, rfl, hm0, hm1, hb, hd⟩ := hrel
        by_cases hmz : m = 0
        · subst hmz
          have hl := left_short h0 h1 (unhide hd)
          have HI := hide (show Lib.itoa n = 45 :: l by
            have h := unhide hd
            simp only [decR, Int.natAbs_zero, if_true] at h
            rw [Lib.itoa, if_pos hneg, ← h])
          clear hd h0 h1
          go_wp2
          go_ret
          exact ⟨by rw [unhide HI]; exact congrArg Ending.returned (one_app l rfl), hb⟩
        · have hR := neg_rem hm0
          have hA : -10 < m.tmod 10 := by omega
          have hB : m.tmod 10 ≤ 0 := by omega
          have hl := left_short h0 h1 (unhide hd)
          have HM := hide hR
          have HQ := hide (neg_quo hm0)
          have hq0 : m.tdiv 10 ≤ 0 := by rw [unhide HQ]; omega
          have hq1 : -9223372036854775808 ≤ m.tdiv 10 := by rw [unhide HQ]; omega
          have hst := hide (show decR (m.tdiv 10).natAbs (UInt8.ofNat (48 + m.natAbs % 10) :: l) = Lib.decDigits n.natAbs by
            rw [← unhide hd, decR_step (m := m.natAbs) (by omega) l, neg_quo hm0, Int.natAbs_neg, Int.natAbs_natCast])
          have hms := hide (show (m.tdiv 10).natAbs < m.natAbs by rw [neg_quo hm0]; omega)
          clear hR h0 h1
          have hcv := cv_one (P := Try.prog) Try.underlying54 Try.underlying5 Try.underlying9 wr
          go_wp2
          all_goals go_roundw
          case measure => exact unhide hms
          case measure => exact unhide hms
          case rel => exact ⟨_, _, rfl, one_app l (congrArg UInt8.ofNat (by have := unhide HM; omega)), hq0, hq1, hb.alloc hb.size _, hst⟩
          case rel => exact ⟨_, _, rfl, one_app l (congrArg UInt8.ofNat (by have := unhide HM; omega)), hq0, hq1, hb.alloc hb.size _, hst⟩
    · go_enter Try.func37, Try.ntmps37
      go_wp2
      go_loopw [0, 4] (fun nv o wr => ∃ (m : Int) (l : List UInt8), nv = .int .i64 m ∧ o = .string ⟨l.toArray⟩ ∧ 0 ≤ m ∧ m ≤ 9223372036854775807 ∧ Below w.heap.size w wr ∧ Hid (decR m.natAbs l = Lib.decDigits n.natAbs)) (fun nv _ _ => (intOf nv).natAbs)
      case atStart => exact ⟨n, [], rfl, rfl, by omega, h1, Below.refl _ _, by unfold Hid decR; rw [if_neg (by omega), List.append_nil]⟩
      case round =>
        obtain ⟨m, l, rfl, rfl, hm0, hm1, hb, hd⟩ := hrel
        by_cases hmz : m = 0
        · subst hmz
          have hl := left_short h0 h1 (unhide hd)
          have HI := hide (show Lib.itoa n = l by
            have h := unhide hd
            simp only [decR, Int.natAbs_zero, if_true] at h
            rw [Lib.itoa, if_neg (by omega), show n.toNat = n.natAbs from by omega, ← h])
          clear hd h0 h1
          go_wp2
          go_ret
          exact ⟨by rw [unhide HI]; rfl, hb⟩
        · have hA : 0 ≤ m % 10 := by omega
          have hB : m % 10 < 10 := by omega
          have hl := left_short h0 h1 (unhide hd)
          have HM := hide (show m % 10 = ((m.natAbs % 10 : Nat) : Int) by omega)
          have hq0 : 0 ≤ m / 10 := by omega
          have hq1 : m / 10 ≤ 9223372036854775807 := by omega
          have hst := hide (show decR (m / 10).natAbs (UInt8.ofNat (48 + m.natAbs % 10) :: l) = Lib.decDigits n.natAbs by
            rw [← unhide hd, decR_step (m := m.natAbs) (by omega) l]; congr 1; omega)
          have hms := hide (show (m / 10).natAbs < m.natAbs by omega)
          clear h0 h1
          have hcv := cv_one (P := Try.prog) Try.underlying54 Try.underlying5 Try.underlying9 wr
          go_wp2
          go_roundw
          case measure => exact unhide hms
          case rel => exact ⟨_, _, rfl, one_app l (congrArg UInt8.ofNat (by have := unhide HM; omega)), hq0, hq1, hb.alloc hb.size _, hst⟩

end Go.Proofs.Ytabfjmabiapgoaa


/-
  spec.PermText and impl.PermText, by their contracts.
-/

namespace Go.Proofs.Ytabfjmabiapgoaa
set_option maxRecDepth 100000
open Go.RowKit

theorem cat_list (a b : List UInt8) : (⟨a.toArray⟩ ++ ⟨b.toArray⟩ : ByteArray) = ⟨(a ++ b).toArray⟩ := by
  refine ByteArray.ext ?_
  simp
theorem fmt1_any (z : Int) (h0 : 1 ≤ z) (h1 : z ≤ 8) (w : World) :
    Calls Try.prog 37 #[.int .i64 z] w fun e w' => e = .returned (.string ⟨[dgt z].toArray⟩) ∧ Below w.heap.size w w' := by
  have h := sfmt_any z (by omega) (by omega) w
  rw [itoa_one h0 h1] at h
  exact h
theorem str_eq {a b : ByteArray} (h : a = b) : Value.string a = .string b := by rw [h]

theorem byteInfo : (Try.prog.info? 5).map (fun i => (i.zero, i.size, i.bytes)) = some (some (.int .u8 0), 1, 1) := by kernel_rfl
def u8c (ns : List Int) : List Value := ns.map (Value.int .u8)
theorem cv_row {P : Program} {src dst e : TypeId} (hs : P.underlying src = some (.slice e)) (he : P.underlying e = some (.int .u8)) (hd : P.underlying dst = some .string) (w : World) (B g n c : Nat) (t : TypeId) (ns : List Int)
    (hown : w.ownsRow B t 1 (.slice (some ⟨g, 0, none⟩) n c) n (u8c ns)) :
    (convert src dst (.slice (some ⟨g, 0, none⟩) n c)).run P w = .ok (.string ⟨(ns.map fun n => UInt8.ofNat n.toNat).toArray⟩) w := by
  rw [run_convert_bytes_string _ src dst e _ n c hs he hd]
  have hn : n = (u8c ns).length := by have := hown.1; omega
  have h := run_bytesToString (P := P) w ⟨g, 0, none⟩ n c ns (by
    have := run_loadCells_list (P := P) (w := w) ⟨g, 0, none⟩ (u8c ns) (fun j v hj => hown.cells (g := g) rfl j v hj)
    rwa [← hn] at this)
  rw [push_list] at h
  simpa using h

set_option maxHeartbeats 800000 in
theorem itext_any (A : Option Addr) (n c B : Nat) (zs : List Int) (w : World) (h : Arg w B A n c zs) :
    Calls Try.prog 38 #[.slice A n c] w (GivesS w (ptext zs)) := by
  obtain ⟨bp, hp⟩ : ∃ b, isP zs = b := ⟨_, rfl⟩
  have H1 := hide (iisperm_any A n c B zs bp hp w h.reads h.under h.le h.small)
  have hl := h.len
  cases bp with
  | false =>
    rw [ptext_no hp]
    clear hp h hl
    go_enter Try.func38, Try.ntmps38
    go_wp2_with fail
    refine (unhide H1).mono ?_
    rintro e w1 ⟨rfl, hb⟩
    clear H1
    go_wp2
    go_ret
    exact ⟨rfl, hb⟩
  | true =>
    by_cases h0 : n = 0
    · subst h0
      rw [ptext_nil hp hl]
      clear hp h hl
      go_enter Try.func38, Try.ntmps38
      go_wp2_with fail
      refine (unhide H1).mono ?_
      rintro e w1 ⟨rfl, hb⟩
      clear H1
      go_wp2
      go_ret
      exact ⟨rfl, hb⟩
    · rw [ptext_yes hp (by omega)]
      obtain ⟨i0, hi, hz0, hz1, hz2⟩ := info_parts byteInfo
      have hr := h.reads
      have hB := h.under
      have hn8 : n ≤ 8 := by have := isP_le hp; omega
      have HP := hide (fun k z hz => isP_range hp (k := k) (z := z) hz)
      have HT := hide (textI_bytes (l := zs) (fun z hz => by have := (isP_true.1 hp).2.1 z hz; omega))
      have HL := hide hl
      have h0' : ((n : Int) == 0) = false := by simp; omega
      clear hp h hl
      go_enter Try.func38, Try.ntmps38
      go_wp2_with fail
      refine (unhide H1).mono ?_
      rintro e w0 ⟨rfl, hb0⟩
      have hs0 := hb0.size
      clear H1
      go_wp2_with (first
        | (at_make; refine wpList_make_full _ rfl (.tmp 13) (.tmp 13) 54 rfl w.heap.size 5 i0 (.int .u8 0) 1 Try.underlying54 hi hz0 hz1 _ _ _ _ n rfl rfl (by first | rfl | omega) (by first | rfl | omega) (by rw [hz2]; omega) (by unfold maxLen; omega) hs0 ?_; intro w1 hown hg))
      have hb1 := hb0.grown hg hs0 (by simp)
      clear hg hb0
      obtain ⟨g, hg⟩ : ∃ g, g = w0.heap.size := ⟨_, rfl⟩
      rw [← hg] at hown ⊢
      clear hg hs0
      go_loopw [4, 5, 17] (fun _ _ i wr => ∃ (k : Nat) (xs : List Value), k ≤ n ∧ i = .int .i64 k ∧ Below w.heap.size w wr ∧ wr.ownsRow w.heap.size 5 1 (.slice (some ⟨g, 0, none⟩) n n) n xs ∧ Hid (xs.take k = (u8c (textI zs)).take k)) (fun _ _ i _ => n - (intOf i).toNat)
      case atStart => exact ⟨0, _, Nat.zero_le _, rfl, hb1, hown, by exact rfl⟩
      case round =>
        obtain ⟨k, xs, hk, rfl, hb, hown', hx⟩ := hrel
        clear hown hb1
        have hlx : xs.length = n := by simpa using hown'.1
        by_cases hlt : k < n
        · obtain ⟨ad, u, rfl, had, hu, hc⟩ := ((hr.more hB).below hb).at_ hlt
          obtain ⟨z, hz, rfl⟩ := i64_at hu
          obtain ⟨hz1', hz2'⟩ := unhide HP k z hz
          rw [unhide HL] at hz2'
          have hz8 : z ≤ 8 := by omega
          obtain ⟨old, hold⟩ : ∃ old, wr.cell? ⟨g, k, none⟩ = some old := ⟨_, by rw [hown'.cellAt k (by omega)]; exact List.getElem?_eq_getElem (by omega)⟩
          have hfz := hown'.frozenAt k
          have hst := hide (take_set_i (u := .int .u8 (48 + z)) (unhide hx) (by unfold u8c; rw [List.getElem?_map, textI_at hz]; rfl) (by omega))
          have ho2 := (hown'.stored k (.int .u8 (48 + z))).1
          have hb2 := below_set_i hb hown' k (.int .u8 (48 + z))
          clear hx hlx hu hz hown' hb
          go_wp2
          go_roundw
          case rel => exact ⟨k + 1, _, by omega, by go_num, hb2, ho2, hst⟩
          case measure => simp [intOf]; omega
        · obtain rfl : n = k := by omega
          have : xs = u8c (textI zs) := by
            have h := unhide hx
            have h2 : (u8c (textI zs)).length = n := by unfold u8c; rw [List.length_map, textI_length, unhide HL]
            rwa [List.take_of_length_le (by omega), List.take_of_length_le (by omega)] at h
          subst this
          have hcv := cv_row (P := Try.prog) Try.underlying54 Try.underlying5 Try.underlying9 wr w.heap.size g n n 5 (textI zs) hown'
          rw [unhide HT] at hcv
          clear hx hlx hown'
          go_wp2
          go_ret
          exact ⟨rfl, hb⟩
end Go.Proofs.Ytabfjmabiapgoaa


/-
  spec.NearText, by its contract.
-/

namespace Go.Proofs.Ytabfjmabiapgoaa
set_option maxRecDepth 100000
open Go.RowKit

theorem nearB_yes {q J : List Int} {k : Nat} (h : 0 < k ∧ ¬ (k : Int) ∈ J) : nearB q J (k + 1) = (nearB q J k ++ [95]) ++ [dgt (at0 q k)] := by rw [nearB, if_pos h, List.append_assoc]
theorem nearB_no {q J : List Int} {k : Nat} (h : ¬ (0 < k ∧ ¬ (k : Int) ∈ J)) : nearB q J (k + 1) = nearB q J k ++ [dgt (at0 q k)] := by rw [nearB, if_neg h, List.nil_append]
set_option maxHeartbeats 1600000 in
theorem sntxt_any (A P : Option Addr) (n c B m d B' : Nat) (q J : List Int) (w : World) (h : Arg w B A n c q) (h' : Arg w B' P m d J) :
    Calls Try.prog 17 #[.agg #[.slice A n c, .slice P m d]] w (GivesS w (ntext q J)) := by
  obtain ⟨b, hok⟩ : ∃ b, nearOK q J = b := ⟨_, rfl⟩
  obtain ⟨w0, hw0⟩ : ∃ w0, w0 = w.alloc (.cells #[.slice A n c, .slice P m d] 27) := ⟨_, rfl⟩
  have b0 : Below w.heap.size w w0 := by rw [hw0]; exact (Below.refl _ w).alloc (Nat.le_refl _) _
  have g0 : Whole w0 w.heap.size 27 #[.slice A n c, .slice P m d] := by rw [hw0]; exact Whole.new _ _ _
  have H1 := hide (snear_any A P n c B m d B' q J w0 (h.below b0) (h'.below b0))
  rw [hok] at H1
  have x0 := g0.cell 0
  have x1 := g0.cell 1
  simp only [List.getElem?_toArray, List.getElem?_cons_zero, List.getElem?_cons_succ] at x0 x1
  cases b with
  | false =>
    rw [ntext_no hok]
    have HW0 := hide hw0
    clear h h' hok g0
    rw [hw0] at x0 x1
    clear hw0
    go_enter Try.func17, Try.ntmps17
    go_wp2_with fail
    rw [← unhide HW0]
    refine (unhide H1).mono ?_
    rintro e w1 ⟨rfl, d1⟩
    have d := below_after b0 d1
    clear H1 HW0 b0 d1
    go_wp2
    go_ret
    exact ⟨rfl, d⟩
  | true =>
    obtain ⟨hq, hJ⟩ := nearOK_iff.1 hok
    have hl := h.len
    by_cases h0 : n = 0
    · subst h0
      rw [ntext_nil hok hl]
      have HW0 := hide hw0
      have G0 := hide g0
      clear h h' hok g0 hq hJ hl
      rw [hw0] at x0 x1
      clear hw0
      go_enter Try.func17, Try.ntmps17
      go_wp2_with fail
      rw [← unhide HW0]
      refine (unhide H1).mono ?_
      rintro e w1 ⟨rfl, d1⟩
      have d := below_after b0 d1
      have y0 := ((unhide G0).below d1 (unhide G0).lt).cell 0
      simp only [List.getElem?_toArray, List.getElem?_cons_zero] at y0
      clear H1 HW0 b0 d1 x0 x1 G0
      go_wp2
      go_ret
      exact ⟨rfl, d⟩
    · rw [ntext_yes hok (by omega)]
      have hn8 : n ≤ 8 := by have := isP_le hq; omega
      have HP := hide (fun k z hz => isP_range hq (k := k) (z := z) hz)
      have HL := hide hl
      have h0' : ((n : Int) == 0) = false := by simp; omega
      have HW0 := hide hw0
      have G0 := hide g0
      have HU := hide (⟨h.under, h'.under, b0.size⟩ : B ≤ w.heap.size ∧ B' ≤ w.heap.size ∧ w.heap.size ≤ w0.heap.size)
      have hr := (h.below b0).reads
      have hr' := (h'.below b0).reads
      have hm := h'.le
      clear h h' hok g0 hq hJ hl
      rw [hw0] at x0 x1
      clear hw0
      go_enter Try.func17, Try.ntmps17
      go_wp2_with fail
      rw [← unhide HW0]
      refine (unhide H1).mono ?_
      rintro e w1 ⟨rfl, d1⟩
      have dd := below_after b0 d1
      have g1 := (unhide G0).below d1 (unhide G0).lt
      have c0' := g1.cell 0
      have c1' := g1.cell 1
      have hg1 := g1.lt
      simp only [List.getElem?_toArray, List.getElem?_cons_zero, List.getElem?_cons_succ] at c0' c1'
      have hr1 := hr.below (d1.mono (by have := unhide HU; omega))
      have hr1' := hr'.below (d1.mono (by have := unhide HU; omega))
      have hu1 : B ≤ w1.heap.size ∧ B' ≤ w1.heap.size := by have := unhide HU; have := d1.size; omega
      have HU1 := hide hu1
      clear H1 HW0 b0 d1 x0 x1 G0 hr hr' HU g1 hu1
      go_wp2
      go_loopw [3, 4] (fun o i wr => ∃ k : Nat, k ≤ n ∧ i = .int .i64 k ∧ o = .string ⟨(nearB q J k).toArray⟩ ∧ Below w1.heap.size w1 wr) (fun _ i _ => n - (intOf i).toNat)
      case atStart => exact ⟨0, Nat.zero_le _, rfl, rfl, Below.refl _ _⟩
      case round =>
        obtain ⟨k, hk, rfl, rfl, hb⟩ := hrel
        have htl : (nearB q J k).length ≤ 16 := by have := nearB_len q J k; omega
        have c0 := (hb.cell (p := ⟨w.heap.size, 0, none⟩) hg1).trans c0'
        have c1 := (hb.cell (p := ⟨w.heap.size, 1, none⟩) hg1).trans c1'
        by_cases hlt : k < n
        · obtain ⟨ad, u, rfl, had, hu, hc⟩ := (hr1.below (hb.mono (unhide HU1).1)).at_ hlt
          obtain ⟨z, hz, rfl⟩ := i64_at hu
          obtain ⟨hz1, hz2⟩ := unhide HP k z hz
          rw [unhide HL] at hz2
          have hz8 : z ≤ 8 := by omega
          have H2 := hide (fun w' => fmt1_any z hz1 hz8 w')
          have ez : at0 q k = z := at0_of hz
          have hr2 := hr1'.below (hb.mono (unhide HU1).2)
          by_cases hins : 0 < k ∧ ¬ (k : Int) ∈ J
          · have hst := nearB_yes (q := q) hins
            rw [ez] at hst
            have HST := hide hst
            have HC := hide (l2has_any P m d B' J (k : Int) false (decide_eq_false hins.2) wr hr2 (by omega))
            have hk0 : (0 : Int) < (k : Int) := by have := hins.1; omega
            clear hst hins hu hz ez hr1 hr1' hr2 hz1 hz2 hz8
            go_wp2_with fail
            refine (unhide HC).mono ?_
            rintro e w5 ⟨rfl, hw5⟩
            subst hw5
            clear HC
            go_wp2_with fail
            refine (unhide H2 _).mono ?_
            rintro e w2 ⟨rfl, hb2⟩
            have hb3 := below_after hb hb2
            clear H2 hb2 hb c0 c1 hc
            go_wp2
            go_roundw
            case rel => exact ⟨k + 1, by omega, by go_num, str_eq (by rw [unhide HST, ← cat_list, ← cat_list]), hb3⟩
            case measure => simp [intOf]; omega
          · have hst := nearB_no (q := q) hins
            rw [ez] at hst
            have HST := hide hst
            by_cases hk00 : k = 0
            · subst hk00
              have hc0 : wr.cell? ad = some (.int .i64 z) := by rw [show ad = ad.add 0 by unfold Addr.add; split <;> simp_all]; exact hc
              clear hst hins hu hz ez hr1 hr1' hr2 hz1 hz2 hz8
              go_wp2_with fail
              refine (unhide H2 _).mono ?_
              rintro e w2 ⟨rfl, hb2⟩
              have hb3 := below_after hb hb2
              clear H2 hb2 hb c0 c1 hc hc0
              go_wp2
              go_roundw
              case rel => exact ⟨0 + 1, by omega, by go_num, str_eq (by rw [unhide HST, ← cat_list]), hb3⟩
              case measure => simp [intOf]; omega
            · have hin : (k : Int) ∈ J := by
                by_cases hi : (k : Int) ∈ J
                · exact hi
                · exact absurd ⟨by omega, hi⟩ hins
              have hk0 : (0 : Int) < (k : Int) := by omega
              have HC := hide (l2has_any P m d B' J (k : Int) true (decide_eq_true hin) wr hr2 (by omega))
              clear hst hins hu hz ez hr1 hr1' hr2 hz1 hz2 hz8 hin hk00
              go_wp2_with fail
              refine (unhide HC).mono ?_
              rintro e w5 ⟨rfl, hw5⟩
              subst hw5
              clear HC
              go_wp2_with fail
              refine (unhide H2 _).mono ?_
              rintro e w2 ⟨rfl, hb2⟩
              have hb3 := below_after hb hb2
              clear H2 hb2 hb c0 c1 hc
              go_wp2
              go_roundw
              case rel => exact ⟨k + 1, by omega, by go_num, str_eq (by rw [unhide HST, ← cat_list]), hb3⟩
              case measure => simp [intOf]; omega
        · obtain rfl : n = k := by omega
          have hend := dd.trans (hb.mono dd.size)
          have e := unhide HL
          clear hb hr1 hr1' dd
          go_wp2
          go_ret
          exact ⟨ret_str (by rw [e]), hend⟩
end Go.Proofs.Ytabfjmabiapgoaa


/-
  impl.NearText, by its contract.
-/

namespace Go.Proofs.Ytabfjmabiapgoaa
set_option maxRecDepth 100000
open Go.RowKit

theorem u8s_u8c (L : List UInt8) : u8s L = u8c (L.map fun b => (b.toNat : Int)) := by unfold u8s u8c; rw [List.map_map]; rfl
theorem u8_back (L : List UInt8) : (L.map fun b => (b.toNat : Int)).map (fun n => UInt8.ofNat n.toNat) = L := by
  rw [List.map_map]
  conv => rhs; rw [← List.map_id L]
  refine List.map_congr_left fun b _ => ?_
  simp
theorem u8_row {P : Program} {src dst e : TypeId} (hs : P.underlying src = some (.slice e)) (he : P.underlying e = some (.int .u8)) (hd : P.underlying dst = some .string) (w : World) (B g n c : Nat) (t : TypeId) (L : List UInt8)
    (hown : w.ownsRow B t 1 (.slice (some ⟨g, 0, none⟩) n c) n (u8s L)) :
    (convert src dst (.slice (some ⟨g, 0, none⟩) n c)).run P w = .ok (.string ⟨L.toArray⟩) w := by
  have := cv_row hs he hd w B g n c t (L.map fun b => (b.toNat : Int)) (by rw [← u8s_u8c]; exact hown)
  rwa [u8_back] at this
theorem u8s_snoc (L : List UInt8) (b : UInt8) : u8s L ++ [Value.int .u8 b.toNat] = u8s (L ++ [b]) := by unfold u8s; simp
theorem bytes_reads (w : World) (e : TypeId) (L : List UInt8) : Reads (Lib.bytesWorld w e ⟨L.toArray⟩) (w.heap.size + 1) (some ⟨w.heap.size, 0, none⟩) L.length (u8s L) := by
  refine ⟨by simp [u8s], fun _ => ⟨_, rfl, Nat.lt_succ_self _, fun j u hu => ?_⟩⟩
  obtain ⟨b, hb, rfl⟩ := u8_at hu
  have hj : j < L.length := (List.getElem?_eq_some_iff.1 hb).1
  have := Lib.bytesWorld_cell w e ⟨L.toArray⟩ j (by simpa [ByteArray.size] using hj)
  rw [show (⟨w.heap.size, 0, none⟩ : Addr).add j = ⟨w.heap.size, j, none⟩ by unfold Addr.add; split <;> simp_all, this]
  simp [List.getD_eq_getElem?_getD, hb]
set_option maxHeartbeats 1600000 in
theorem ntxt_yes (A P : Option Addr) (n c B m d B' : Nat) (q J : List Int) (w : World) (h : Arg w B A n c q) (h' : Arg w B' P m d J) (hok : nearOK q J = true) :
    Calls Try.prog 18 #[.agg #[.slice A n c, .slice P m d]] w (GivesS w (ntext q J)) := by
  obtain ⟨hq, hJ⟩ := nearOK_iff.1 hok
  obtain ⟨i0, hi, hz0, hz1, hz2⟩ := info_parts byteInfo
  have hn8 : n ≤ 8 := by have := isP_le hq; have := h.len; omega
  have hq8 := isP_le hq
  have hJ8 : ∀ x ∈ J, 0 ≤ x ∧ x ≤ 8 := fun x hx => by have := hJ.1 x hx; omega
  obtain ⟨w0, hw0⟩ : ∃ w0, w0 = w.alloc (.cells #[.slice A n c, .slice P m d] 27) := ⟨_, rfl⟩
  have b0 : Below w.heap.size w w0 := by rw [hw0]; exact (Below.refl _ w).alloc (Nat.le_refl _) _
  have g0 : Whole w0 w.heap.size 27 #[.slice A n c, .slice P m d] := by rw [hw0]; exact Whole.new _ _ _
  have H1 := hide (inear_any A P n c B m d B' q J w0 (h.below b0) (h'.below b0))
  have H2 := hide (show ∀ w2, Below w.heap.size w w2 → _ from fun w2 d2 => jots_any P m d B' J w2 (h'.below d2) hJ8)
  have H3 := hide (show ∀ w2, Below w.heap.size w w2 → _ from fun w2 d2 => itext_any A n c B q w2 (h.below d2))
  have HH := hide (fun (i : Int) (hi : 0 ≤ i ∧ i ≤ 62) b hb (w' : World) => jhas_in hJ8 i hi b hb w')
  obtain ⟨L, hL⟩ : ∃ L, L = ptextL q := ⟨_, rfl⟩
  obtain ⟨hL1, hL8⟩ := ptextL_len hq
  have HG := gapB_text hok
  rw [ptext_list hq] at H3
  rw [hok] at H1
  rw [← hL] at H3 HG hL1 hL8
  have x0 := g0.cell 0
  have x1 := g0.cell 1
  simp only [List.getElem?_toArray, List.getElem?_cons_zero, List.getElem?_cons_succ] at x0 x1
  have HW0 := hide hw0
  have HGG := hide HG
  clear h h' hok hq hJ hJ8 hL HG
  rw [hw0] at x0 x1
  clear hw0
  go_enter Try.func18, Try.ntmps18
  go_wp2_with fail
  rw [← unhide HW0]
  refine (unhide H1).mono ?_
  rintro e w1 ⟨rfl, d1⟩
  have d1' := below_after b0 d1
  have g1 := g0.below d1 g0.lt
  have x0 := g1.cell 0
  have x1 := g1.cell 1
  simp only [List.getElem?_toArray, List.getElem?_cons_zero, List.getElem?_cons_succ] at x0 x1
  have HX := hide (unhide H2 w1 d1')
  clear H1 H2 g0 b0 d1 HW0
  go_wp2_with fail
  refine (unhide HX).mono ?_
  rintro e w2 ⟨rfl, d2⟩
  have d2' := d1'.trans (d2.below _)
  have g2 : Whole w2 w.heap.size 27 #[.slice A n c, .slice P m d] := g1.below (d2.below (w.heap.size + 1)) (Nat.lt_succ_self _)
  have y0 := g2.cell 0
  simp only [List.getElem?_toArray, List.getElem?_cons_zero] at y0
  have HY := hide (unhide H3 w2 d2')
  clear HX H3 d1' d2 g1 x0 x1
  go_wp2_with fail
  refine (unhide HY).mono ?_
  rintro e w3 ⟨rfl, d3⟩
  have d3' := below_after d2' d3
  have hcv := Lib.run_convert_string_bytes (P := Try.prog) w3 9 54 5 ⟨L.toArray⟩ (u := .string) Try.underlying9 Try.underlying54 Try.underlying5
  have hbw := Lib.bytesWorld_below w3 5 ⟨L.toArray⟩
  have hrd := bytes_reads w3 5 L
  have hsz := Lib.bytesWorld_size w3 5 ⟨L.toArray⟩
  have hsl : (ByteArray.mk L.toArray).size = L.length := by simp [ByteArray.size]
  rw [hsl] at hcv
  obtain ⟨cap, hcap⟩ : ∃ cap, grownCap w3 L.length 0 5 = cap := ⟨_, rfl⟩
  rw [hcap] at hcv
  obtain ⟨w4, hw4⟩ : ∃ w4, w4 = Lib.bytesWorld w3 5 ⟨L.toArray⟩ := ⟨_, rfl⟩
  rw [← hw4] at hcv hbw hrd hsz
  have d4 := below_after d3' hbw
  obtain ⟨gd, hgd⟩ : ∃ g, g = w3.heap.size := ⟨_, rfl⟩
  rw [← hgd] at hcv hrd hsz
  have HR := hide (⟨hrd, hsz, d4⟩ : Reads w4 (gd + 1) (some ⟨gd, 0, none⟩) L.length (u8s L) ∧ w4.heap.size = gd + 1 ∧ Below w.heap.size w w4)
  clear HY d2' y0 g2 d3 d3' hbw hsl hw4 hgd hcap hrd hsz d4
  go_wp2
  obtain ⟨hrd, hsz, d4⟩ := unhide HR
  have hgw := d4.size
  obtain ⟨t, ht⟩ : ∃ t : Nat, L.length = t := ⟨_, rfl⟩
  rw [ht] at hrd hL1 hL8
  rw [ht]
  have HT := hide ht
  clear hcv ht
  go_loopw [4, 18] (fun v i wr => ∃ (k r : Nat), k ≤ t ∧ i = .int .i64 k ∧ r = (gapB J L k).length ∧ Below (gd + 1) w4 wr ∧ wr.ownsRow (gd + 1) 5 1 v r (u8s (gapB J L k))) (fun _ i _ => t - (intOf i).toNat)
  case atStart => exact ⟨0, 0, Nat.zero_le _, rfl, rfl, Below.refl _ _, World.ownsRow_nil _ _ _ _⟩
  case round =>
    obtain ⟨k, r, hk, rfl, hr, hb, hown⟩ := hrel
    have hrl : r ≤ 16 := by have := gapB_len J L k; omega
    have hbs : gd + 1 ≤ wr.heap.size := by have := hb.size; omega
    by_cases hlt : k < t
    · obtain ⟨ad, u, hA, _, hu, hc⟩ := (hrd.below hb).at_ hlt
      obtain ⟨b, hbk, rfl⟩ := u8_at hu
      obtain rfl : ad = ⟨gd, 0, none⟩ := by injection hA with h; exact h.symm
      have hc3 : wr.cell? ⟨gd, k, none⟩ = some (.int .u8 b.toNat) := by rw [← show (⟨gd, 0, none⟩ : Addr).add k = ⟨gd, k, none⟩ by unfold Addr.add; split <;> simp_all]; exact hc
      have HA := hide hA
      clear hA hu hc
      by_cases hins : 0 < k ∧ ¬ (k : Int) ∈ J
      · have hst := gapB_yes hbk hins
        have HC := hide (fun w' => unhide HH (k : Int) (by omega) false (decide_eq_false hins.2) w')
        have hk0 : (0 : Int) < (k : Int) := by have := hins.1; omega
        have HE := hide (show u8s (gapB J L (k + 1)) = u8s (gapB J L k) ++ [Value.int .u8 95, Value.int .u8 b.toNat] by rw [hst]; unfold u8s; simp)
        have hr2 : r + 1 + 1 = (gapB J L (k + 1)).length := by rw [hst, hr]; simp
        have HR2 := hide hr2
        clear hst hins hbk hr hr2 hrd
        go_wp2_with fail
        refine (unhide HC _).mono ?_
        rintro e w5 ⟨rfl, hw5⟩
        subst hw5
        clear HC
        go_wp2_with (at_builtin; refine wpList_append_one rfl (.tmp 31) (.tmp 32) 54 rfl (gd + 1) 5 i0 (.int .u8 0) 1 Try.underlying54 hi hz0 hz1 hz2 rfl w5 w5 _ r (u8s (gapB J L k)) rfl hown (.int .u8 95) rfl rfl rfl (by omega) (by unfold maxLen; omega) (Below.refl _ _) hbs ?_)
        intro v1 w6 hown1 hb6 hg6
        have hbs2 : gd + 1 ≤ w6.heap.size := by have := hb6.size; omega
        have hb7 := hb.trans hb6
        clear hown hb hb6 hg6 hbs hc3
        go_wp2_with (at_builtin; refine wpList_append_one rfl (.tmp 34) (.tmp 36) 54 rfl (gd + 1) 5 i0 (.int .u8 0) 1 Try.underlying54 hi hz0 hz1 hz2 rfl w6 w6 _ (r + 1) _ rfl hown1 (.int .u8 b.toNat) rfl rfl rfl (by omega) (by unfold maxLen; omega) (Below.refl _ _) hbs2 ?_)
        intro v2 w8 hown2 hb8 hg8
        have hb9 := hb7.trans hb8
        rw [← unhide HE] at hown2
        clear hown1 hb7 hb8 hg8 HE
        go_wp2
        go_roundw
        case rel => exact ⟨k + 1, r + 1 + 1, by omega, by go_num, unhide HR2, hb9, hown2⟩
        case measure => simp [intOf]; omega
      · have hst := gapB_no hbk hins
        have HE := hide (show u8s (gapB J L (k + 1)) = u8s (gapB J L k) ++ [Value.int .u8 b.toNat] by rw [hst]; unfold u8s; simp)
        have hr2 : r + 1 = (gapB J L (k + 1)).length := by rw [hst, hr]; simp
        have HR2 := hide hr2
        by_cases h0 : k = 0
        · subst h0
          clear hst hins hbk hr hr2 hrd
          go_wp2_with (at_builtin; refine wpList_append_one rfl (.tmp 34) (.tmp 36) 54 rfl (gd + 1) 5 i0 (.int .u8 0) 1 Try.underlying54 hi hz0 hz1 hz2 rfl wr wr _ r _ rfl hown (.int .u8 b.toNat) rfl rfl rfl (by omega) (by unfold maxLen; omega) (Below.refl _ _) hbs ?_)
          intro v2 w8 hown2 hb8 hg8
          have hb9 := hb.trans hb8
          rw [← unhide HE] at hown2
          clear hown hb hb8 hg8 HE
          go_wp2
          go_roundw
          case rel => exact ⟨0 + 1, r + 1, by omega, by go_num, unhide HR2, hb9, hown2⟩
          case measure => simp [intOf]; omega
        · have hin : (k : Int) ∈ J := by
            by_cases hi : (k : Int) ∈ J
            · exact hi
            · exact absurd ⟨by omega, hi⟩ hins
          have hk0 : (0 : Int) < (k : Int) := by omega
          have HC := hide (fun w' => unhide HH (k : Int) (by omega) true (decide_eq_true hin) w')
          clear hst hins hbk hr hr2 hrd hin h0
          go_wp2_with fail
          refine (unhide HC _).mono ?_
          rintro e w5 ⟨rfl, hw5⟩
          subst hw5
          clear HC
          go_wp2_with (at_builtin; refine wpList_append_one rfl (.tmp 34) (.tmp 36) 54 rfl (gd + 1) 5 i0 (.int .u8 0) 1 Try.underlying54 hi hz0 hz1 hz2 rfl w5 w5 _ r _ rfl hown (.int .u8 b.toNat) rfl rfl rfl (by omega) (by unfold maxLen; omega) (Below.refl _ _) hbs ?_)
          intro v2 w8 hown2 hb8 hg8
          have hb9 := hb.trans hb8
          rw [← unhide HE] at hown2
          clear hown hb hb8 hg8 HE
          go_wp2
          go_roundw
          case rel => exact ⟨k + 1, r + 1, by omega, by go_num, unhide HR2, hb9, hown2⟩
          case measure => simp [intOf]; omega
    · obtain rfl : t = k := by omega
      have hr1 : 0 < r := by
        have : (gapB J L (t - 1 + 1)).length ≠ 0 := by rw [gapB]; simp
        rw [show t - 1 + 1 = t by omega] at this
        omega
      have hv : ∃ g c, u4 = Value.slice (some ⟨g, 0, none⟩) r c := by
        rcases hown.2 with ⟨_, h0⟩ | ⟨g, cap, cur, hv, _⟩
        · omega
        · exact ⟨g, cap, hv⟩
      obtain ⟨g, c9, rfl⟩ := hv
      have hcv := u8_row (P := Try.prog) Try.underlying54 Try.underlying5 Try.underlying9 wr (gd + 1) g r c9 5 _ hown
      have hgg := unhide HGG
      rw [unhide HT] at hgg
      rw [hgg] at hcv
      have hend := d4.trans (hb.mono (by omega))
      clear hown hb hrd hgg HGG hr hr1 hrl
      go_wp2
      go_ret
      exact ⟨rfl, hend⟩
set_option maxHeartbeats 800000 in
theorem intxt_any (A P : Option Addr) (n c B m d B' : Nat) (q J : List Int) (w : World) (h : Arg w B A n c q) (h' : Arg w B' P m d J) :
    Calls Try.prog 18 #[.agg #[.slice A n c, .slice P m d]] w (GivesS w (ntext q J)) := by
  obtain ⟨b, hok⟩ : ∃ b, nearOK q J = b := ⟨_, rfl⟩
  cases b with
  | true => exact ntxt_yes A P n c B m d B' q J w h h' hok
  | false =>
    obtain ⟨w0, hw0⟩ : ∃ w0, w0 = w.alloc (.cells #[.slice A n c, .slice P m d] 27) := ⟨_, rfl⟩
    have b0 : Below w.heap.size w w0 := by rw [hw0]; exact (Below.refl _ w).alloc (Nat.le_refl _) _
    have g0 : Whole w0 w.heap.size 27 #[.slice A n c, .slice P m d] := by rw [hw0]; exact Whole.new _ _ _
    have H1 := hide (inear_any A P n c B m d B' q J w0 (h.below b0) (h'.below b0))
    rw [hok] at H1
    rw [ntext_no hok]
    have x0 := g0.cell 0
    have x1 := g0.cell 1
    simp only [List.getElem?_toArray, List.getElem?_cons_zero, List.getElem?_cons_succ] at x0 x1
    have HW0 := hide hw0
    clear h h' hok g0
    rw [hw0] at x0 x1
    clear hw0
    go_enter Try.func18, Try.ntmps18
    go_wp2_with fail
    rw [← unhide HW0]
    refine (unhide H1).mono ?_
    rintro e w1 ⟨rfl, d1⟩
    have d := below_after b0 d1
    clear H1 HW0 b0 d1
    go_wp2
    go_ret
    exact ⟨rfl, d⟩
end Go.Proofs.Ytabfjmabiapgoaa


/-
  spec.ReverseNear, by its contract.
-/

namespace Go.Proofs.Ytabfjmabiapgoaa
set_option maxRecDepth 100000
open Go.RowKit

theorem plOK_len {n : Nat} {pl : List Int} (h : PlOK n pl) : pl.length ≤ n := by
  by_cases h0 : pl.length = 0
  · omega
  · have key : ∀ i, i < pl.length → (i : Int) + 1 ≤ at0 pl i := by
      intro i
      induction i with
      | zero => intro hi; have := (h.rng hi).1; simpa using this
      | succ i ih => intro hi; have h1 := ih (by omega); have h2 := h.mono (show i < i + 1 by omega) hi; omega
    have h1 := key (pl.length - 1) (by omega)
    have h2 := (h.rng (i := pl.length - 1) (by omega)).2
    omega
theorem ints_under {w w' : World} {B g : Nat} {v : Value} {zs : List Int} (h : Ints w B v zs) (hu : Until g v) (hb : Below (g + 1) w w') : Ints w' B v zs := by
  refine ⟨h.1, ?_⟩
  rcases h.2 with h0 | ⟨k, cap, cur, e, hv, hk, hc, rest⟩
  · exact .inl h0
  · have hlt : k < g := hu k (by rw [hv]; rfl)
    exact .inr ⟨k, cap, cur, e, hv, hk, (hb.block k (by omega)).trans hc, rest⟩
def revQ (q J : List Int) : List Int := if nearOK q J then q.reverse else []
def revJJ (q J : List Int) : List Int := if nearOK q J then plRev (q.length - 1) J else []
/-- The first j of the joined places of the reverse. -/
def revP (n : Nat) (J : List Int) (j : Nat) : List Int := (J.reverse.take j).map fun x => (n : Int) - x
theorem revP_step {n i : Nat} {J : List Int} {x : Int} (hx : J[i]? = some x) (j : Nat) (hj : j = J.length - (i + 1)) : revP n J (j + 1) = revP n J j ++ [(n : Int) - x] := by
  have hi : i < J.length := (List.getElem?_eq_some_iff.1 hx).1
  unfold revP
  rw [List.take_add_one, List.getElem?_reverse (by omega), show J.length - 1 - j = i by omega, hx, List.map_append]
  rfl
theorem revP_all {q J : List Int} (h : nearOK q J = true) : revP q.length J J.length = plRev (q.length - 1) J := by
  have hJ := (nearOK_iff.1 h).2
  unfold revP plRev
  rw [List.take_of_length_le (by rw [List.length_reverse]; exact Nat.le_refl _), List.map_reverse]
  congr 1
  refine List.map_congr_left fun x hx => ?_
  have := hJ.1 x hx
  omega
theorem rev_own {w : World} {B j n : Nat} {v : Value} {J xs : List Int} {y : Int} (h : w.ownsRow B 3 1 v (j + 1) (i64s (revP n J j ++ [y]))) (hx : revP n J j ++ [y] = xs) : ∃ A c, v = .slice A (j + 1) c ∧ w.ownsRow B 3 1 (.slice A (j + 1) c) (j + 1) (i64s xs) := by
  rw [hx] at h
  rcases h.2 with ⟨_, h0⟩ | ⟨g, cap, cur, rfl, hr⟩
  · omega
  · exact ⟨_, _, rfl, h⟩
set_option maxHeartbeats 6400000 in
theorem srevn_any (A P : Option Addr) (n c B m d B' : Nat) (q J : List Int) (w : World) (h : Arg w B A n c q) (h' : Arg w B' P m d J) :
    Calls Try.prog 19 #[.agg #[.slice A n c, .slice P m d]] w (GivesNB w (revQ q J) (revJJ q J) (nearOK q J)) := by
  have hl := h.len
  have hl' := h'.len
  have hle' := h'.le
  obtain ⟨b, hb⟩ : ∃ b, nearOK q J = b := ⟨_, rfl⟩
  obtain ⟨w0, hw0⟩ : ∃ w0, w0 = (w.alloc (.cells #[.slice A n c, .slice P m d] 27)).alloc (.cells #[.slice none 0 0, .slice none 0 0] 27) := ⟨_, rfl⟩
  have b0 : Below w.heap.size w w0 := by rw [hw0]; exact ((Below.refl _ w).alloc (Nat.le_refl _) _).alloc (by simp) _
  have hs0 : w0.heap.size = w.heap.size + 2 := by rw [hw0]; simp
  have gx : Whole w0 w.heap.size 27 #[.slice A n c, .slice P m d] := by rw [hw0]; exact (Whole.new _ _ _).alloc _
  have gr : Whole w0 (w.heap.size + 1) 27 #[.slice none 0 0, .slice none 0 0] := by
    rw [hw0]
    have := Whole.new (w.alloc (.cells #[.slice A n c, .slice P m d] 27)) 27 #[.slice none 0 0, .slice none 0 0]
    rwa [World.size_alloc] at this
  have x0 := gx.cell 0
  have x1 := gx.cell 1
  have x2 := gx.lt
  simp only [List.getElem?_toArray, List.getElem?_cons_zero, List.getElem?_cons_succ] at x0 x1
  have H1 := hide (show Calls Try.prog 9 #[.agg #[.slice A n c, .slice P m d]] w0 (GivesB w0 b) from by
    rw [← hb]; exact snear_any A P n c B m d B' q J w0 (h.below b0) (h'.below b0))
  rw [hw0] at H1 x0 x1 x2
  have HS := hide hs0
  have HW := hide (⟨hw0, gx, gr, b0⟩ : w0 = (w.alloc (.cells #[.slice A n c, .slice P m d] 27)).alloc (.cells #[.slice none 0 0, .slice none 0 0] 27) ∧ Whole w0 w.heap.size 27 #[.slice A n c, .slice P m d] ∧ Whole w0 (w.heap.size + 1) 27 #[.slice none 0 0, .slice none 0 0] ∧ Below w.heap.size w w0)
  clear hs0 hw0 gx gr b0
  cases b with
  | false =>
    rw [show revQ q J = [] by unfold revQ; rw [hb]; rfl, show revJJ q J = [] by unfold revJJ; rw [hb]; rfl, hb]
    clear h h' hl hl' hb hle'
    go_enter Try.func19, Try.ntmps19
    go_wp2_with fail
    refine (unhide H1).mono ?_
    rintro e w1 ⟨rfl, d1⟩
    obtain ⟨hw0, gx, gr, b0⟩ := unhide HW
    rw [← hw0] at d1
    have hs0 := unhide HS
    have hR := gr.below d1 (by omega)
    have hb1 := below_after b0 d1
    have r0 := hR.cell 0
    have r1 := hR.cell 1
    have f0 := hR.frozen 0
    have f1 := hR.frozen 1
    have hltr := hR.lt
    simp only [List.getElem?_toArray, List.getElem?_cons_zero, List.getElem?_cons_succ] at r0 r1
    clear H1 HW d1 hw0 gx gr b0 hs0 HS x0 x1 x2
    go_wp2_with fail
    have hWe := (hR.put 0 (.slice none 0 0)).put 1 (.slice none 0 0)
    refine bodyPost_ret (v := .tuple #[.agg #[.slice none 0 0, .slice none 0 0], .bool false]) (results_near Try.results19 _ _ (w.heap.size + 1) 27 _ (0, 0) _ rfl hWe Try.underlying27 rfl nearInfo) rfl ?_
    exact GivesNB.mk false (NearAt.none_ _ _) ((hb1.setCell (by simp) _).setCell (by simp) _)
  | true =>
    obtain ⟨hq, hJ⟩ := nearOK_iff.1 hb
    have hn8 : n ≤ 8 := by have := isP_le hq; omega
    have hm8 : m ≤ 8 := by have := plOK_len hJ; omega
    have HQ := hide (show revQ q J = q.reverse ∧ revJJ q J = revP n J m from ⟨by unfold revQ; rw [hb]; rfl, by unfold revJJ; rw [hb, ← hl, ← hl', revP_all hb]; rfl⟩)
    have HJ := hide (fun k x (hx : J[k]? = some x) => hJ.1 x (List.mem_of_getElem? hx))
    have HA := hide (⟨h, h'⟩ : Arg w B A n c q ∧ Arg w B' P m d J)
    have HL := hide (⟨hl, hl'⟩ : q.length = n ∧ J.length = m)
    rw [(unhide HQ).1, (unhide HQ).2, hb]
    clear h h' hl hl' hb hle' hq hJ
    go_enter Try.func19, Try.ntmps19
    go_wp2_with fail
    refine (unhide H1).mono ?_
    rintro e w1 ⟨rfl, d1⟩
    obtain ⟨hw0, gx, gr, b0⟩ := unhide HW
    rw [← hw0] at d1
    have hs0 := unhide HS
    have hX := gx.below d1 (by omega)
    have hR := gr.below d1 (by omega)
    have hb1 := below_after b0 d1
    have hs1 := d1.size
    clear x0 x1 x2
    have x0 := hX.cell 0
    have x2 := hX.lt
    simp only [List.getElem?_toArray, List.getElem?_cons_zero] at x0
    have H2 := hide (l3rev_any A n c B q w1 ((unhide HA).1.below hb1))
    have HF1 := hide (⟨hX, hR, hb1, hs0, hs1⟩ : Whole w1 w.heap.size 27 #[.slice A n c, .slice P m d] ∧ Whole w1 (w.heap.size + 1) 27 #[.slice none 0 0, .slice none 0 0] ∧ Below w.heap.size w w1 ∧ w0.heap.size = w.heap.size + 2 ∧ w0.heap.size ≤ w1.heap.size)
    clear H1 HW HS d1 hw0 gx gr b0 hs0 hs1 hX hR hb1
    go_wp2_with fail
    refine (unhide H2).mono ?_
    rintro e w2 ⟨A2, c2, rfl, o2, d2⟩
    obtain ⟨hX, hR, hb1, hs0, hs1⟩ := unhide HF1
    have hrl : q.reverse.length = n := by rw [List.length_reverse]; exact (unhide HL).1
    rw [hrl] at o2 ⊢
    obtain ⟨g, hg⟩ : ∃ g, g = w2.heap.size := ⟨_, rfl⟩
    obtain ⟨w5, hw5⟩ : ∃ w5, w5 = w2.alloc (.cells #[.slice A2 n c2, .slice none 0 0] 27) := ⟨_, rfl⟩
    have hb25 : Below w2.heap.size w2 w5 := by rw [hw5]; exact (Below.refl _ w2).alloc (Nat.le_refl _) _
    have hs2 := d2.size
    have d5 := below_after d2 hb25
    have hG5 : Whole w5 g 27 #[.slice A2 n c2, .slice none 0 0] := by rw [hw5, hg]; exact Whole.new _ _ _
    have hX5 := hX.below d5 (by omega)
    have hR5 := hR.below d5 (by omega)
    have hU5 : Until g (.slice A2 n c2) := by rw [hg]; exact o2.until_
    have hP5 : Ints w5 (w.heap.size + 2) (.slice A2 n c2) q.reverse := (o2.below hb25).low (by omega)
    have hB5 := below_after hb1 d5
    have hg1 : w.heap.size + 2 ≤ g := by omega
    have y1 := hX5.cell 1
    have y2 := hX5.lt
    simp only [List.getElem?_toArray, List.getElem?_cons_zero, List.getElem?_cons_succ] at y1
    rw [hw5] at y1 y2
    have hwm : IntKind.i64.wrap ((m : Int) - 1) = (m : Int) - 1 := by rw [IntKind.wrap_i64]; omega
    have HW5 := hide (⟨hw5, hg⟩ : w5 = w2.alloc (.cells #[.slice A2 n c2, .slice none 0 0] 27) ∧ g = w2.heap.size)
    have HF5 := hide (⟨hG5, hX5, hR5, hP5, hB5⟩ : Whole w5 g 27 #[.slice A2 n c2, .slice none 0 0] ∧ Whole w5 w.heap.size 27 #[.slice A n c, .slice P m d] ∧ Whole w5 (w.heap.size + 1) 27 #[.slice none 0 0, .slice none 0 0] ∧ Ints w5 (w.heap.size + 2) (.slice A2 n c2) q.reverse ∧ Below w.heap.size w w5)
    clear H2 HF1 hX hR hb1 hs0 hs1 x0 x2 o2 d2 hrl hb25 d5 hs2 hw5 hg hG5 hX5 hR5 hP5 hB5
    go_wp2
    obtain ⟨hw5, hg⟩ := unhide HW5
    rw [← hw5, ← hg]
    clear hw5 hg HW5 y1 y2
    go_loopw [5] (fun kv wr => ∃ (r j : Nat) (Aj : Option Addr) (cj : Nat), r + j = m ∧ kv = .int .i64 ((r : Int) - 1) ∧ Whole wr g 27 #[.slice A2 n c2, .slice Aj j cj] ∧ wr.ownsRow (g + 1) 3 1 (.slice Aj j cj) j (i64s (revP n J j)) ∧
        Whole wr w.heap.size 27 #[.slice A n c, .slice P m d] ∧ Whole wr (w.heap.size + 1) 27 #[.slice none 0 0, .slice none 0 0] ∧ Ints wr (w.heap.size + 2) (.slice A2 n c2) q.reverse ∧ Below w.heap.size w wr) (fun kv _ => (intOf kv + 1).toNat)
    case atStart =>
      obtain ⟨hG5, hX5, hR5, hP5, hB5⟩ := unhide HF5
      exact ⟨m, 0, none, 0, rfl, rfl, hG5, World.ownsRow_nil _ _ _ _, hX5, hR5, hP5, hB5⟩
    case round =>
      obtain ⟨r, j, Aj, cj, hrj, rfl, hG, hO, hX, hR, hP, hB⟩ := hrel
      clear HF5
      have r0 := hG.cell 0
      have r1 := hG.cell 1
      have f1 := hG.frozen 1
      have hltg := hG.lt
      have x0 := hX.cell 0
      have x1 := hX.cell 1
      simp only [List.getElem?_toArray, List.getElem?_cons_zero, List.getElem?_cons_succ] at r0 r1 x0 x1
      cases r with
      | succ i =>
        have ei : (((i + 1 : Nat) : Int) - 1) = (i : Int) := by omega
        rw [ei]
        have hge : (0 : Int) ≤ (i : Int) := by omega
        have him : (i : Int) < (m : Int) := by omega
        obtain ⟨ad, u, rfl, _, hu, hc⟩ := ((unhide HA).2.below hB).reads.at_ (show i < m by omega)
        obtain ⟨x, hx, rfl⟩ := i64_at hu
        have hxr := unhide HJ i x hx
        have hxq := (unhide HL).1
        have hwi : IntKind.i64.wrap ((i : Int) - 1) = (i : Int) - 1 := by rw [IntKind.wrap_i64]; omega
        have hwx : IntKind.i64.wrap ((n : Int) - x) = (n : Int) - x := by rw [IntKind.wrap_i64]; omega
        have hstep := revP_step (n := n) hx j (by have := (unhide HL).2; omega)
        have HST := hide hstep
        have HF := hide (⟨hG, hX, hR, hP, hB, hO, hrj⟩ : Whole wr g 27 #[.slice A2 n c2, .slice Aj j cj] ∧ Whole wr w.heap.size 27 #[.slice A n c, .slice (some ad) m d] ∧ Whole wr (w.heap.size + 1) 27 #[.slice none 0 0, .slice none 0 0] ∧ Ints wr (w.heap.size + 2) (.slice A2 n c2) q.reverse ∧ Below w.heap.size w wr ∧ wr.ownsRow (g + 1) 3 1 (.slice Aj j cj) j (i64s (revP n J j)) ∧ i + 1 + j = m)
        have hjm : j ≤ 8 := by omega
        have hxs : -9223372036854775808 ≤ (n : Int) - x ∧ (n : Int) - x ≤ 9223372036854775807 := by omega
        have r1d : ∀ o, (wr.drew.alloc o).cell? ⟨g, 1, none⟩ = some (.slice Aj j cj) := fun o => (((Below.refl wr.heap.size wr).drew.alloc (Nat.le_refl _) o).cell (p := ⟨g, 1, none⟩) hltg).trans r1
        have r1e : wr.drew.cell? ⟨g, 1, none⟩ = some (.slice Aj j cj) := r1
        clear hG hX hR hP hB hu hx hxr hstep hxq ei hrj
        go_wp2
        go_region_law
          (first
            | (refine step_append_one (by rfl) (.tmp 23) (.tmp 33) (by rfl) (g + 1) j wr wr _ (revP n J j) ((n : Int) - x) (by rfl) (by rfl) (by rfl) hO hxs (by omega) (Below.refl _ _) hltg ?_; intro v' w' hO' hb'; obtain ⟨A', c', rfl, hO2⟩ := rev_own hO' (unhide HST).symm; have r1' := ((unhide HF).1.below hb' (Nat.lt_succ_self g)).cell 1; have f1' := ((unhide HF).1.below hb' (Nat.lt_succ_self g)).frozen 1; have l1' := ((unhide HF).1.below hb' (Nat.lt_succ_self g)).lt; simp only [List.getElem?_toArray, List.getElem?_cons_zero, List.getElem?_cons_succ] at r1'; clear hO'))
        all_goals
          obtain ⟨hG, hX, hR, hP, hB, hO, hrj⟩ := unhide HF
          have hG' := (hG.below hb' (Nat.lt_succ_self g)).put 1 (.slice A' (j + 1) c')
          have hO3 := own_past hO2 (p := ⟨g, 1, none⟩) (Nat.lt_succ_self g) (.slice A' (j + 1) c')
          have hX' := (hX.below hb' (show w.heap.size < g + 1 by omega)).far (p := ⟨g, 1, none⟩) (by simp; omega) (.slice A' (j + 1) c')
          have hR' := (hR.below hb' (show w.heap.size + 1 < g + 1 by omega)).far (p := ⟨g, 1, none⟩) (by simp; omega) (.slice A' (j + 1) c')
          have hP' := (ints_under hP hU5 hb').kept (grownBy_setCellA w' ⟨g, 1, none⟩ (.slice A' (j + 1) c')) (away_block hU5)
          have hB' := (hB.trans (hb'.mono (show w.heap.size ≤ g + 1 by omega))).setCell (p := ⟨g, 1, none⟩) (by show w.heap.size ≤ g; omega) (.slice A' (j + 1) c')
          clear hG hX hR hP hB hO HF r0 r1 f1 hltg x0 x1 hc r1d r1e r1' f1' l1' hO2 HST
          go_wp2
          go_roundw
          case rel => exact ⟨i, j + 1, A', c', by omega, rfl, hG', hO3, hX', hR', hP', hB'⟩
          case measure => simp [intOf]
      | zero =>
        have hjm : j = m := by omega
        subst hjm
        have s0 := hR.cell 0
        have s1 := hR.cell 1
        have e0 := hR.frozen 0
        have e1 := hR.frozen 1
        have hltr := hR.lt
        simp only [List.getElem?_toArray, List.getElem?_cons_zero, List.getElem?_cons_succ] at s0 s1
        have hN : NearAt wr (w.heap.size + 2) (.slice A2 n c2) (.slice Aj j cj) q.reverse (revP n J j) := ⟨hP, (Ints.of_own hO).low (show w.heap.size + 2 ≤ g + 1 by omega), apart hU5 (fun k hk => (hO.lt k hk).1) (Nat.le_succ g)⟩
        have HN := hide (⟨hR, hN, hB⟩ : Whole wr (w.heap.size + 1) 27 #[.slice none 0 0, .slice none 0 0] ∧ NearAt wr (w.heap.size + 2) (.slice A2 n c2) (.slice Aj j cj) q.reverse (revP n J j) ∧ Below w.heap.size w wr)
        clear hG hX hR hP hB hO hN
        go_wp2_with fail
        obtain ⟨hR, hN, hB⟩ := unhide HN
        have hWe := (hR.put 0 (.slice A2 n c2)).put 1 (.slice Aj j cj)
        refine bodyPost_ret (v := .tuple #[.agg #[.slice A2 n c2, .slice Aj j cj], .bool true]) (results_near Try.results19 _ _ (w.heap.size + 1) 27 _ (0, 0) _ rfl hWe Try.underlying27 rfl nearInfo) rfl ?_
        exact GivesNB.mk true (((hN.past (p := ⟨w.heap.size + 1, 0, none⟩) (Nat.lt_succ_self _) _).past (p := ⟨w.heap.size + 1, 1, none⟩) (Nat.lt_succ_self _) _).low (by omega)) ((hB.setCell (p := ⟨w.heap.size + 1, 0, none⟩) (Nat.le_succ _) _).setCell (p := ⟨w.heap.size + 1, 1, none⟩) (Nat.le_succ _) _)
end Go.Proofs.Ytabfjmabiapgoaa
