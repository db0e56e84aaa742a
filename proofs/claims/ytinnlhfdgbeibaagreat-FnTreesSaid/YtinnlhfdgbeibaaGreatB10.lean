/-
  Words and contracts that the laws lean on, bundled: SJoin, TreeX, IJoin, NodeT, Sort, Compact, OrdA, RootI, Sep.
-/
import Derived.Test.YtinnlhfdgbeibaaGreatB1
import Derived.Lib.AppendStr
import Derived.Lib.UnsafeStr
import Derived.Lib.BufferRead
import Derived.Lib.Join
import Derived.Laws.IdiomStrings
import Derived.Test.YtinnlhfdgbeibaaGreatB9
import Derived.Test.YtinnlhfdgbeibaaGreatShelfJ
import Derived.Test.YtinnlhfdgbeibaaGreatB8
import Derived.Test.YtinnlhfdgbeibaaGreatB4
import Derived.Test.YtinnlhfdgbeibaaGreatShelfF
import Derived.Deep.RegionHeld3
import Derived.Lib.SliceRun
import Derived.Laws.BitsLemmas
import Derived.Test.YtinnlhfdgbeibaaGreatB2
import Derived.Test.YtinnlhfdgbeibaaGreatB6
import Derived.Test.YtinnlhfdgbeibaaGreatB3

/-
  spec.Join, by its contract: the bytes of the elements, the separator between them.
-/

namespace Go.Proofs.YtinnlhfdgbeibaaGreat
set_option maxRecDepth 100000
open Go.RowKit

/-- The text behind k rounds. -/
def jn (sep : ByteArray) (ss : List ByteArray) : Nat → List UInt8
  | 0 => []
  | k + 1 => (jn sep ss k ++ (if 0 < k then sep.data.toList else [])) ++ (ss.getD k ByteArray.empty).data.toList

theorem join_snoc (sep x : List UInt8) (xs : List (List UInt8)) : Lib.join (xs ++ [x]) sep = (Lib.join xs sep ++ (if 0 < xs.length then sep else [])) ++ x := by
  cases xs with
  | nil => simp [Lib.join_nil, Lib.join_one]
  | cons y r => simp [Lib.join_cons, Lib.joinTail]

theorem jn_eq (sep : ByteArray) (ss : List ByteArray) : ∀ k, k ≤ ss.length → jn sep ss k = Lib.join ((ss.take k).map (·.data.toList)) sep.data.toList := by
  intro k
  induction k with
  | zero => intro _; simp [jn, Lib.join_nil]
  | succ k ih =>
    intro hk
    have hs : ss[k]? = some (ss.getD k ByteArray.empty) := by
      rw [List.getD_eq_getElem?_getD, List.getElem?_eq_getElem (by omega)]; rfl
    rw [jn, ih (by omega), List.take_add_one, hs]
    simp only [Option.toList_some, List.map_append, List.map_cons, List.map_nil, join_snoc]
    congr 3
    simp only [List.length_map, List.length_take, Nat.min_eq_left (show k ≤ ss.length by omega)]

theorem own_bytes_string {P : Program} {w : World} {base : Nat} {v : Value} {l : List UInt8} {src dst e : TypeId} (hs : P.underlying src = some (.slice e)) (he : P.underlying e = some (.int .u8)) (hd : P.underlying dst = some .string)
    (h : w.ownsRow base e 1 v l.length (Lib.byteCells l)) : (convert src dst v).run P w = .ok (.string ⟨l.toArray⟩) w := by
  rcases h.2 with ⟨rfl, h0⟩ | ⟨g, cap, cur, rfl, hb, hg, hnc, hcm, hsz, htake⟩
  · obtain rfl : l = [] := List.eq_nil_of_length_eq_zero h0
    exact Lib.run_convert_nil_bytes w src dst e 0 hs he hd
  · refine run_convert_bytes_back w src dst e _ cap l hs he hd fun j hj => ?_
    refine h.cells (g := g) rfl j _ ?_
    simp [Lib.byteCells, hj]

theorem byteInfoJ : (Tryz.prog.info? 5).map (fun i => (i.zero, i.size, i.bytes)) = some (some (.int .u8 0), 1, 1) := by kernel_rfl
theorem jn_length (sep : ByteArray) (ss : List ByteArray) (k : Nat) (s : ByteArray) (hs : ss[k]? = some s) : jn sep ss (k + 1) = (jn sep ss k ++ (if 0 < k then sep.data.toList else [])) ++ s.data.toList := by
  rw [jn, List.getD_eq_getElem?_getD, hs]; rfl
theorem size_list (s : ByteArray) : s.data.toList.length = s.size := by rw [Array.length_toList]; rfl

set_option maxHeartbeats 800000 in
theorem sjoin_any (A : Option Addr) (n c B : Nat) (ss : List ByteArray) (sep : ByteArray) (w : World) (hr : Reads w B A n (ss.map Value.string)) (hB : B ≤ w.heap.size) (hn : n ≤ 1099511627776)
    (hlen : ∀ k, k ≤ n → (jn sep ss k).length ≤ 4398046511104) :
    Calls Tryz.prog 44 #[.slice A n c, .string sep] w fun e w' => e = .returned (.string ⟨(jn sep ss n).toArray⟩) ∧ Below w.heap.size w w' := by
  obtain ⟨i0, hi, hz0, hz1, hz2⟩ := info_parts byteInfoJ
  have HL := hide hlen
  clear hlen
  have hst := World.ownsRow_made (base := w.heap.size) (e := 5) (size := 1) w #[] 0 (Nat.le_refl _) (by simp [maxLen]) rfl
  have hb1 : Below w.heap.size w (w.alloc (.cells #[] 5)) := (Below.refl _ _).alloc (Nat.le_refl _) _
  go_enter Tryz.func44, Tryz.ntmps44
  go_wp2
  go_loopw [5, 6] (fun v i wr => ∃ (k : Nat), k ≤ n ∧ i = .int .i64 k ∧ Below w.heap.size w wr ∧ wr.ownsRow w.heap.size 5 1 v (jn sep ss k).length (Lib.byteCells (jn sep ss k))) (fun _ i _ => n - (intOf i).toNat)
  case atStart => exact ⟨0, Nat.zero_le _, rfl, hb1, hst⟩
  case round =>
    obtain ⟨k, hk, rfl, hb, hown⟩ := hrel
    rename_i vv _ _
    clear hst hb1
    by_cases hlt : k < n
    · obtain ⟨ad, u, rfl, had, hu, hcw⟩ := (hr.more hB).at_ hlt
      obtain ⟨s, hs, rfl⟩ := strs_at hu
      have hblk : (ad.add k).block < w.heap.size := by rw [block_of_add]; exact had
      have HC := hide hcw
      clear hcw
      have hj := jn_length sep ss k s hs
      have h1 := unhide HL (k + 1) (by omega)
      have h2 := unhide HL k hk
      have hz := size_list s
      have hzs := size_list sep
      clear hu hs
      by_cases hk0 : 0 < k
      · rw [if_pos hk0] at hj
        have hjl : (jn sep ss (k + 1)).length = (jn sep ss k).length + sep.size + s.size := by rw [hj, List.length_append, List.length_append, hz, hzs]
        have HJ := hide hj
        have HJL := hide hjl
        have hb3 : (jn sep ss k).length + sep.size + s.size ≤ 4398046511104 := by omega
        clear hj hjl h1 hz hzs
        go_wp2_with (first
          | (at_builtin; refine Lib.wpList_append_own_string _ rfl (.tmp 16) (.tmp 17) 22 9 rfl w.heap.size 5 i0 Tryz.underlying22 Tryz.underlying9 hi hz0 hz1 hz2 _ _ _ rfl hown sep rfl (by simp only [maxLen]; omega) (by omega) hb.size ?_; intro v1 w1 hown1 hg1 hi1; clear hi1; have hb1 := hb.grown hg1 hb.size (fun g hg => (hown.lt g hg).1); have hc1 := (hb1.cell hblk).trans (unhide HC); have hsz1 := hb1.size)
          | (at_builtin; refine Lib.wpList_append_own_string _ rfl (.tmp 19) (.tmp 23) 22 9 rfl w.heap.size 5 i0 Tryz.underlying22 Tryz.underlying9 hi hz0 hz1 hz2 _ _ _ rfl hown1 s rfl (by simp only [maxLen]; omega) (by omega) hsz1 ?_; intro v2 w2 hown2 hg2 hi2; clear hi2))
        have hb2 := hb1.grown hg2 hsz1 (fun g hg => (hown1.lt g hg).1)
        have hown3 : w2.ownsRow w.heap.size 5 1 v2 (jn sep ss (k + 1)).length (Lib.byteCells (jn sep ss (k + 1))) := by
          rw [unhide HJL, unhide HJ, Lib.byteCells_append, Lib.byteCells_append, ← Lib.strCells_eq, ← Lib.strCells_eq]
          exact hown2
        clear hown2 hg2 hown1 hg1 hb1 hc1
        go_roundw
        case rel => exact ⟨k + 1, by omega, by go_num, hb2, hown3⟩
        case measure => simp [intOf]; omega
      · rw [if_neg hk0] at hj
        have hjl : (jn sep ss (k + 1)).length = (jn sep ss k).length + s.size := by rw [hj, List.append_nil, List.length_append, hz]
        have HJ := hide hj
        have HJL := hide hjl
        have hb3 : (jn sep ss k).length + s.size ≤ 4398046511104 := by omega
        have hc1 := (hb.cell hblk).trans (unhide HC)
        clear hj hjl h1 hz hzs
        go_wp2_with (first
          | (at_builtin; refine Lib.wpList_append_own_string _ rfl (.tmp 19) (.tmp 23) 22 9 rfl w.heap.size 5 i0 Tryz.underlying22 Tryz.underlying9 hi hz0 hz1 hz2 _ _ _ rfl hown s rfl (by simp only [maxLen]; omega) (by omega) hb.size ?_; intro v2 w2 hown2 hg2 hi2; clear hi2))
        have hb2 := hb.grown hg2 hb.size (fun g hg => (hown.lt g hg).1)
        have hown3 : w2.ownsRow w.heap.size 5 1 v2 (jn sep ss (k + 1)).length (Lib.byteCells (jn sep ss (k + 1))) := by
          rw [unhide HJL, unhide HJ, List.append_nil, Lib.byteCells_append, ← Lib.strCells_eq]
          exact hown2
        clear hown2 hg2 hc1
        go_roundw
        case rel => exact ⟨k + 1, by omega, by go_num, hb2, hown3⟩
        case measure => simp [intOf]; omega
    · obtain rfl : n = k := by omega
      have hcv := own_bytes_string Tryz.underlying22 Tryz.underlying5 Tryz.underlying9 hown
      clear hown
      go_wp2
      go_ret
      exact ⟨rfl, hb⟩
end Go.Proofs.YtinnlhfdgbeibaaGreat


/-
  spec.TreeText, by its contract.
-/

namespace Go.Proofs.YtinnlhfdgbeibaaGreat
set_option maxRecDepth 100000
open Go.RowKit

def oneT : ByteArray := ⟨#[49]⟩
set_option maxHeartbeats 1600000 in
theorem ttext_low (A : Option Addr) (n c B : Nat) (zs : List Int) (w : World) (h : Arg w B A n c zs) (hn : n = 1 ∨ splitOK zs = false) (d : ByteArray) (hd : d = if splitOK zs then oneT else ByteArray.empty) :
    Calls Tryz.prog 13 #[.slice A n c] w (fun e w' => e = .returned (.string d) ∧ Below w.heap.size w w') := by
  have hl := h.len
  have H0 := hide (ssplit_any A n c B zs w h)
  obtain ⟨b, hb⟩ : ∃ b, splitOK zs = b := ⟨_, rfl⟩
  rw [hb] at H0 hd
  cases b with
  | false =>
    subst hd
    rw [rootR_no hb, pcsR_no hb] at H0
    clear hb h hl hn
    go_enter Tryz.func13, Tryz.ntmps13
    go_wp2_with fail
    refine (unhide H0).mono ?_
    rintro e w2 ⟨A3, c3, A4, c4, rfl, hIn, hb2⟩
    clear H0
    go_wp2
    go_ret
    exact ⟨rfl, below_after hb2 ((Below.refl _ w2).alloc (Nat.le_refl _) _)⟩
  | true =>
    subst hd
    obtain rfl : n = 1 := by simpa [hb] using hn
    clear hb h hl hn
    go_enter Tryz.func13, Tryz.ntmps13
    go_wp2_with fail
    refine (unhide H0).mono ?_
    rintro e w2 ⟨A3, c3, A4, c4, rfl, hIn, hb2⟩
    have hb3 := below_after hb2 ((Below.refl _ w2).alloc (Nat.le_refl _) (.cells #[.slice A3 (rootR zs).length c3, .slice A4 (pcsR zs).length c4] 28))
    clear H0 hIn hb2
    go_wp2
    go_ret
    exact ⟨rfl, hb3⟩

def sepT : ByteArray := ⟨#[32]⟩
def barT (l : List ByteArray) : ByteArray := ⟨(jn sepT l l.length).toArray⟩
def textF : Nat → List Int → ByteArray
  | 0, p => if splitOK p then oneT else ByteArray.empty
  | m + 1, p => if splitOK p then (if p.length = 1 then oneT else ptext (rootP p) ++ ⟨#[40]⟩ ++ barT ((pcsP p).map (textF m)) ++ ⟨#[41]⟩) else ByteArray.empty
theorem textF_no {m : Nat} {p : List Int} (h : splitOK p = false) : textF m p = ByteArray.empty := by cases m <;> simp [textF, h]
theorem textF_one {m : Nat} {p : List Int} (h : splitOK p = true) (h1 : p.length = 1) : textF m p = oneT := by cases m <;> simp [textF, h, h1]
theorem textF_many {m : Nat} {p : List Int} (h : splitOK p = true) (h1 : p.length ≠ 1) : textF (m + 1) p = ptext (rootP p) ++ ⟨#[40]⟩ ++ barT ((pcsP p).map (textF m)) ++ ⟨#[41]⟩ := by simp [textF, h, h1]
theorem own0s (w : World) (B : Nat) (hB : B ≤ w.heap.size) : (w.alloc (.cells #[] 9)).ownsRow B 9 1 (.slice (some ⟨w.heap.size, 0, none⟩) 0 0) 0 [] :=
  World.ownsRow_made (base := B) (e := 9) (size := 1) w #[] 0 hB (by simp [maxLen]) rfl
theorem wpList_append_text {ops : Array Oper} {rest : List Oper} {o : Oper} {a : Act} {W : World} {Q : Exit → Act → World → Prop} (hgd : o.guard = none) (sl x : Operand)
    (ho : o.op = .call { callee := .builtin .append, args := #[sl, x], argTypes := #[54, 54] })
    (base n : Nat) (w0 wr : World) (v : Value) (ss : List ByteArray) (s : ByteArray) (hs : a.eval sl = v) (hx : a.eval x = .slice (some ⟨wr.heap.size, 0, none⟩) 1 1) (hW : W = wr.alloc (.cells #[.string s] 9))
    (hown : wr.ownsRow base 9 1 v n (ss.map Value.string)) (hn : n ≤ 1048576) (hb : Below base w0 wr) (hbase : base ≤ wr.heap.size)
    (K : ∀ v' w', w'.ownsRow base 9 1 v' (n + 1) ((ss ++ [s]).map Value.string) → Below base w0 w' → wpList Tryz.prog ops Q rest (a.put o.dst v') w') : wpList Tryz.prog ops Q (o :: rest) a W := by
  obtain ⟨i0, hi, hz0, hz1, hz2⟩ := info_parts strInfo
  refine wpList_append_one hgd sl x 54 ho base 9 i0 (.string ByteArray.empty) 16 Tryz.underlying54 hi hz0 hz1 hz2 rfl w0 wr v _ _ hs hown _ hx hW rfl (by omega) (by unfold maxLen; omega) hb hbase fun v' w' h1 h2 _ => K v' w' ?_ h2
  rw [List.map_append]
  exact h1

theorem textsz (p : List Int) : (ptext p).size ≤ 8 := by
  cases h : isP p with
  | false => rw [ptext_no h]; decide
  | true =>
    have h8 := isP_le h
    by_cases h0 : p.length = 0
    · rw [ptext_nil h h0]; decide
    · rw [ptext_yes h h0]
      show (textL p).toArray.size ≤ 8
      rw [List.size_toArray, textL_length]; exact h8
theorem jn_le {ss : List ByteArray} {S : Nat} (h : ∀ s ∈ ss, s.size ≤ S) : ∀ k, k ≤ ss.length → (jn sepT ss k).length ≤ k * (S + 1)
  | 0, _ => by simp [jn]
  | k + 1, hk => by
    have ih := jn_le h k (by omega)
    have hs : ss[k]? = some ss[k] := List.getElem?_eq_getElem (by omega)
    have := h ss[k] (List.getElem_mem _)
    rw [jn_length _ _ _ _ hs, List.length_append, List.length_append, size_list]
    have h1 : (if 0 < k then sepT.data.toList else []).length ≤ 1 := by split <;> simp [sepT]
    rw [Nat.add_mul, Nat.one_mul]; omega
theorem barsz {ss : List ByteArray} {S : Nat} (h : ∀ s ∈ ss, s.size ≤ S) : (barT ss).size ≤ ss.length * (S + 1) := by
  show (jn sepT ss ss.length).toArray.size ≤ _
  rw [List.size_toArray]; exact jn_le h _ (Nat.le_refl _)
theorem textF_size : ∀ (m : Nat) (p : List Int), (textF m p).size ≤ 20 ^ (m + 1)
  | 0, p => by rw [textF]; split <;> simp [oneT, ByteArray.size]
  | m + 1, p => by
    have h20 : 0 < 20 ^ (m + 1) := Nat.pow_pos (by decide)
    rw [textF]
    split
    · rename_i hs
      split
      · have : oneT.size = 1 := rfl
        rw [Nat.pow_succ]; omega
      · have h1 := textsz (rootP p)
        have h2 := barsz (ss := (pcsP p).map (textF m)) (S := 20 ^ (m + 1)) (fun s hs => by obtain ⟨z, _, rfl⟩ := List.mem_map.1 hs; exact textF_size m z)
        have h3 := pcsP_len (splitOK_all hs).1
        rw [List.length_map] at h2
        have h4 := Nat.mul_le_mul_right (20 ^ (m + 1) + 1) h3
        have e1 : (⟨#[40]⟩ : ByteArray).size = 1 := rfl
        have e2 : (⟨#[41]⟩ : ByteArray).size = 1 := rfl
        rw [ByteArray.size_append, ByteArray.size_append, ByteArray.size_append, e1, e2, Nat.pow_succ]
        omega
    · have : ByteArray.empty.size = 0 := rfl
      omega
theorem small_root {p : List Int} (h : isP p = true) : Small (rootP p) := by
  have h8 := isP_le h
  have h9 := cuts_length p 0
  intro z hz
  unfold rootP sumRoot at hz
  repeat' split at hz
  all_goals try (simp at hz; omega)
  have := patL_range z hz
  simp only [topsOf, List.length_map] at this
  omega

set_option maxHeartbeats 1600000 in
theorem ttext_any : ∀ (m : Nat) (A : Option Addr) (n c B : Nat) (zs : List Int) (w : World) (_ : Arg w B A n c zs) (_ : n ≤ m + 1) (_ : m ≤ 7),
    Calls Tryz.prog 13 #[.slice A n c] w (fun e w' => e = .returned (.string (textF m zs)) ∧ Below w.heap.size w w') := by
  intro m
  induction m with
  | zero =>
    intro A n c B zs w h hn hm
    refine ttext_low A n c B zs w h ?_ _ rfl
    by_cases h1 : n = 1
    · exact .inl h1
    · exact .inr (splitOK_no2 (by rw [h.len]; omega))
  | succ m ih =>
    intro A n c B zs w h hn hm
    by_cases hlow : n = 1 ∨ splitOK zs = false
    · refine ttext_low A n c B zs w h hlow _ ?_
      rcases hlow with h1 | h1
      · cases hs : splitOK zs with
        | false => rw [textF_no hs]; rfl
        | true => rw [textF_one hs (by rw [h.len]; exact h1)]; rfl
      · rw [textF_no h1, h1]; rfl
    · obtain ⟨hn1, hs⟩ := not_or.1 hlow
      have hs : splitOK zs = true := by simpa using hs
      have hl := h.len
      have hp := (splitOK_all hs).1
      have H0 := hide (ssplit_any A n c B zs w h)
      rw [pcsR_yes hs, rootR_yes hs, hs] at H0
      have HP := hide (fun z hz => pcsP_at hp z hz)
      have h8 := isP_le hp
      have HD := hide (textF_many (m := m) hs (by omega))
      have hpc := pcsP_len hp
      obtain ⟨R, hR⟩ : ∃ R, pcsP zs = R := ⟨_, rfl⟩
      rw [hR] at H0 HP hpc HD
      have HL := hide hl
      have hn2 : ¬ (n : Int) = 1 := by omega
      have hn3 : ((n : Int) == 1) = false := by simpa using hn2
      have h2n : 2 ≤ n := by have := (splitOK_all hs).2; omega
      have HSM := hide (small_root hp)
      have HRL := hide (show (rootP zs).length ≤ 1048576 by have := rootP_len hp; omega)
      clear hR hs hlow hp h hl h8
      go_enter Tryz.func13, Tryz.ntmps13
      go_wp2_with fail
      refine (unhide H0).mono ?_
      rintro e w2 ⟨A3, c3, A4, c4, rfl, hIn, hb2⟩
      have hal := (Below.refl _ w2).alloc (Nat.le_refl _) (.cells #[.slice A3 (rootP zs).length c3, .slice A4 R.length c4] 28)
      have hW := Whole.new w2 28 #[.slice A3 (rootP zs).length c3, .slice A4 R.length c4]
      have hT := own0s (w2.alloc (.cells #[.slice A3 (rootP zs).length c3, .slice A4 R.length c4] 28)) (w2.heap.size + 1) (by simp)
      have hX := hIn.below (below_after ((Below.refl _ w2)) hal)
      have HB := hide (below_after hb2 hal)
      have hbl := (Below.refl (w2.heap.size + 1) (w2.alloc (.cells #[.slice A3 (rootP zs).length c3, .slice A4 R.length c4] 28))).alloc (by simp) (.cells #[] 9)
      have hz3 : (w2.alloc (.cells #[.slice A3 (rootP zs).length c3, .slice A4 R.length c4] 28)).heap.size = w2.heap.size + 1 := by simp
      rw [hz3] at hT
      clear H0 hIn hb2 hal
      go_wp2
      generalize hw3 : w2.alloc (.cells #[.slice A3 (rootP zs).length c3, .slice A4 R.length c4] 28) = w3 at hW hT hX HB hbl hz3 ⊢
      clear hw3
      go_loopw [5, 6] (fun v i wr => ∃ k : Nat, k ≤ R.length ∧ i = .int .i64 k ∧ wr.ownsRow (w2.heap.size + 1) 9 1 v k (((R.take k).map (textF m)).map Value.string) ∧ Below (w2.heap.size + 1) w3 wr) (fun _ i _ => R.length - (intOf i).toNat)
      case atStart => exact ⟨0, Nat.zero_le _, rfl, hT, hbl⟩
      case round =>
        obtain ⟨k, hk, rfl, hO, hbr⟩ := hrel
        clear hT hbl
        have hWr := hW.below hbr (Nat.lt_succ_self _)
        have q1 := hWr.cell 1
        have q0 := hWr.cell 0
        simp only [List.getElem?_toArray, List.getElem?_cons_zero, List.getElem?_cons_succ] at q0 q1
        have hXr := hX.below (hbr.mono (by omega))
        have hszr := hbr.size
        by_cases hlt : k < R.length
        · obtain ⟨ad, A1, c1, z, rfl, hz, hcell, hIz⟩ := hXr.pcs.intsS.at_ hlt
          have hzp := unhide HP z (List.mem_of_getElem? hz)
          have hz1 : z.length ≤ m + 1 := by have := hzp.2.2.2 (by rw [unhide HL]; omega); rw [unhide HL] at this; omega
          have HI := hide (ih A1 z.length c1 _ z wr (hIz.argP hzp.1) hz1 (by omega))
          have HT := hide (take_snoc_r hz)
          clear hz hIz hzp hz1 hXr hX hW hWr
          go_wp2_with fail
          refine (unhide HI).mono ?_
          rintro e w4 ⟨rfl, hb4⟩
          have hO4 := own_below hO hb4
          have hb5 := hbr.trans (hb4.mono (by omega))
          have hs4 : w2.heap.size + 1 ≤ w4.heap.size := by have := hb4.size; omega
          clear HI hO hb4
          go_wp2_with (first
            | (at_builtin; refine wpList_append_text rfl (.tmp 25) (.tmp 32) rfl (w2.heap.size + 1) k w3 w4 _ _ _ rfl rfl rfl hO4 (by omega) hb5 hs4 ?_; intro v6 w6 hO6 hb6))
          go_roundw
          case rel => exact ⟨k + 1, by omega, by go_num, by rw [unhide HT, List.map_append]; exact hO6, hb6⟩
          case measure => simp [intOf]; omega
        · obtain rfl : R.length = k := by omega
          rw [List.take_length] at hO
          have hbw := below_after (unhide HB) (hbr.mono (by omega))
          have HT := hide (stext_any _ _ _ _ _ wr (hXr.row.arg (unhide HRL) hXr.row.cap (unhide HSM)))
          have HO := hide hO
          obtain ⟨A9, c9, rfl⟩ : ∃ A9 c9, u5 = .slice A9 R.length c9 := by
            rcases hO.2 with ⟨hv, hz⟩ | ⟨g, cap, cur, hv, _⟩
            · exact ⟨none, 0, by rw [hv, hz]⟩
            · exact ⟨_, _, hv⟩
          clear hO hXr hX hW hWr ih
          have hsz := textsz (rootP zs)
          go_wp2_with fail
          refine (unhide HT).mono ?_
          rintro e w4 ⟨rfl, hb4⟩
          have hO4 := own_below (unhide HO) hb4
          have hbw4 := below_after hbw hb4
          have hX7 : 20 ^ (m + 1) ≤ 1280000000 := Nat.pow_le_pow_right (n := 20) (by decide) (show m + 1 ≤ 7 by omega)
          have hjs : ∀ s ∈ R.map (textF m), s.size ≤ 1280000000 := fun s hs => by
            obtain ⟨z, _, rfl⟩ := List.mem_map.1 hs
            exact Nat.le_trans (textF_size m z) hX7
          have hmul : ∀ k, k ≤ R.length → k * (1280000000 + 1) ≤ 4398046511104 := fun k hk => by omega
          have H7 := hide (sjoin_any A9 R.length c9 w4.heap.size (R.map (textF m)) sepT w4 (Reads.of_own_at hO4) (Nat.le_refl _) (by omega) (fun k hk => Nat.le_trans (jn_le hjs k (by rw [List.length_map]; exact hk)) (hmul k hk)))
          have hbs := barsz hjs
          have HBS := hide hbs
          clear hX7 hjs hmul hbs HT hO4
          go_wp2_with fail
          refine (unhide H7).mono ?_
          rintro e w5 ⟨rfl, hb5⟩
          have hbw5 := below_after hbw4 hb5
          have hJ : (⟨(jn sepT (R.map (textF m)) R.length).toArray⟩ : ByteArray) = barT (R.map (textF m)) := by unfold barT; rw [List.length_map]
          rw [hJ]
          have hJs : (barT (R.map (textF m))).size ≤ 20000000000 := by
            have := unhide HBS
            rw [List.length_map] at this
            omega
          have HD2 := hide (unhide HD)
          clear HD HBS hJ H7 hb5 hb4 hbw4 hbw
          generalize barT (R.map (textF m)) = J at HD2 hJs ⊢
          generalize ptext (rootP zs) = T at HD2 hsz ⊢
          go_wp2
          go_ret
          exact ⟨by rw [unhide HD2]; rfl, hbw5⟩
end Go.Proofs.YtinnlhfdgbeibaaGreat


/-
  impl.Join at a row of the call's own, by its contract: the library's Join.
-/

namespace Go.Proofs.YtinnlhfdgbeibaaGreat
set_option maxRecDepth 100000
open Go.RowKit

theorem ijoin_row (g n c : Nat) (ss : List ByteArray) (sep : ByteArray) (w : World) (base : Nat) (hown : w.ownsRow base 9 1 (.slice (some ⟨g, 0, none⟩) n c) n (ss.map Value.string)) (hn : n ≤ 1099511627776) (hc : n ≤ c)
    (hlen : (Lib.join (ss.map (·.data.toList)) sep.data.toList).length ≤ 4398046511104) :
    Calls Tryz.prog 73 #[.slice (some ⟨g, 0, none⟩) n c, .string sep] w fun e w' => e = .returned (.string ⟨(Lib.join (ss.map (·.data.toList)) sep.data.toList).toArray⟩) ∧ Below w.heap.size w w' := by
  have hl : ss.length = n := by simpa using hown.1
  subst hl
  have hcells : ∀ (j : Nat) x, ss[j]? = some x → w.cell? ⟨g, 0 + j, none⟩ = some (.string x) := fun j x hx => by
    have := hown.cells (g := g) rfl j (.string x) (by rw [List.getElem?_map, hx]; rfl)
    rw [← this]
    congr 1
    unfold Addr.add
    split <;> simp_all
  have H := hide (Tryz.strings_Join g 0 c ss sep w hcells (hown.lt g rfl).2 (by omega) hc (by omega))
  clear hcells hown hlen hn hc
  go_enter Tryz.func73, Tryz.ntmps73
  go_wp2_with fail
  refine (unhide H).mono ?_
  rintro e w' ⟨rfl, hb⟩
  clear H
  go_wp2
  go_ret
  exact ⟨rfl, hb⟩
theorem own_cap {w : World} {base n c g : Nat} {xs : List Value} {e : TypeId} (h : w.ownsRow base e 1 (.slice (some ⟨g, 0, none⟩) n c) n xs) : n ≤ c := by
  rcases h.2 with ⟨h0, _⟩ | ⟨g', cap, cur, hv, _, _, hnc, _⟩
  · cases h0
  · injection hv with _ _ h3
    omega
theorem own_head {w : World} {base n : Nat} {v : Value} {xs : List Value} {e : TypeId} (h : w.ownsRow base e 1 v n xs) (hn : 0 < n) : ∃ g c, v = .slice (some ⟨g, 0, none⟩) n c := by
  rcases h.2 with ⟨_, h0⟩ | ⟨g, cap, cur, rfl, _⟩
  · omega
  · exact ⟨g, cap, rfl⟩
end Go.Proofs.YtinnlhfdgbeibaaGreat


/-
  (*impl.node).isLeaf, (*impl.node).text, impl.TreeText, by their contracts.
-/

namespace Go.Proofs.YtinnlhfdgbeibaaGreat
set_option maxRecDepth 100000
open Go.RowKit

theorem leaf_any (g k c : Nat) (A : Option Addr) (b : Bool) (hb : ((k : Int) == 0) = b) (w : World) (hc : w.cell? ⟨g, 1, none⟩ = some (.slice A k c)) :
    Calls Tryz.prog 71 #[.pointer (some ⟨g, 0, none⟩)] w fun e w' => e = .returned (.bool b) ∧ w' = w := by
  go_enter Tryz.func71, Tryz.ntmps71
  go_wp2
  go_ret
  exact ⟨rfl, rfl⟩
theorem rootP_one {p : List Int} (h : p.length = 1) : rootP p = [1] := by unfold rootP; rw [if_pos h]
theorem one_text : ptext [1] = oneT := by decide +kernel
theorem pcsP_pos {p : List Int} (h0 : 0 < p.length) : 0 < (pcsP p).length := by
  unfold pcsP sumPcs
  repeat' split
  all_goals try simp
  rw [pcsOf, List.length_map, cuts_yes h0]
  simp

set_option maxHeartbeats 1600000 in
theorem text_leaf (v : Value) (lo hi : Nat) (zs : List Int) (w : World) (h : NodeAt w lo hi v (rootP zs) (.slice none 0 0)) (h1 : zs.length = 1) :
    Calls Tryz.prog 42 #[v] w (GivesS w oneT) := by
  obtain ⟨g, A, c, rfl, _, q0, q1, hI⟩ := h.cells
  rw [rootP_one h1] at q0 hI
  have H1 := hide (leaf_any g 0 0 none true rfl w q1)
  have H2 := hide (itext_any A 1 c _ [1] w (hI.argP (by decide)))
  rw [one_text] at H2
  clear h hI
  go_enter Tryz.func42, Tryz.ntmps42
  go_wp2_with fail
  refine (unhide H1).mono ?_
  rintro e w2 ⟨rfl, rfl⟩
  go_wp2_with fail
  refine (unhide H2).mono ?_
  rintro e w3 ⟨rfl, hb3⟩
  clear H1 H2
  go_wp2
  go_ret
  exact ⟨rfl, hb3⟩

set_option maxHeartbeats 1600000 in
theorem text_any : ∀ (m : Nat) (v : Value) (lo hi : Nat) (zs : List Int) (w : World) (_ : Grown m w lo hi v zs) (_ : hi ≤ w.heap.size) (_ : splitOK zs = true) (_ : m ≤ 7),
    Calls Tryz.prog 42 #[v] w (GivesS w (textF m zs)) := by
  intro m
  induction m with
  | zero =>
    intro v lo hi zs w h hh hs hm
    rw [textF_one hs h.1]
    exact text_leaf v lo hi zs w (h.leaf h.1) h.1
  | succ m ih =>
    intro v lo hi zs w h hh hs hm
    by_cases h1 : zs.length = 1
    · rw [textF_one hs h1]
      exact text_leaf v lo hi zs w (h.leaf h1) h1
    · obtain ⟨m', A, c, vs, hm', hN, hown, hun, hkids⟩ := h.tree h1
      obtain rfl : m = m' := by omega
      obtain ⟨g, A0, c0, rfl, hgh, q0, q1, hI0⟩ := hN.cells
      have hp := (splitOK_all hs).1
      have HD := hide (textF_many (m := m) hs h1)
      have HP := hide (fun z hz => pcsP_at hp z hz)
      have hpc := pcsP_len hp
      have hp0 := pcsP_pos (splitOK_all hs).2
      obtain ⟨R, hR⟩ : ∃ R, pcsP zs = R := ⟨_, rfl⟩
      rw [hR] at hown hun hkids q1 HP hpc HD hp0
      have HK := hide hkids
      have hvl : vs.length = R.length := by simpa using hown.1
      have hrd := Reads.of_own_at hown
      have H1 := hide (leaf_any g R.length c A false (by rw [beq_eq_false_iff_ne]; omega) w q1)
      have HT := hide (fun w' (hb : Below w.heap.size w w') => itext_any A0 (rootP zs).length c0 _ (rootP zs) w' ((hI0.below hb).arg (by have := rootP_len hp; omega) hI0.cap (small_root hp)))
      obtain ⟨i0, hi0, hz0, hz1, hz2⟩ := info_parts strInfo
      have hgw : g < w.heap.size := by omega
      have hsz := textsz (rootP zs)
      clear hN h hs hp hR hkids hun hown hI0
      go_enter Tryz.func42, Tryz.ntmps42
      go_wp2_with fail
      refine (unhide H1).mono ?_
      rintro e w2 ⟨rfl, rfl⟩
      clear H1
      go_wp2_with (first
        | (at_make; refine wpList_make_full _ rfl (.tmp 17) (.tmp 17) 54 rfl w2.heap.size 9 i0 (.string ByteArray.empty) 1 Tryz.underlying54 hi0 hz0 hz1 _ _ _ _ R.length rfl rfl (by first | rfl | omega) (by first | rfl | omega) (by rw [hz2]; omega) (by unfold maxLen; omega) (Nat.le_refl _) ?_))
      intro w3 hown3 hg3
      have hb3 : Below w2.heap.size w2 w3 := (Below.refl _ _).grown hg3 (Nat.le_refl _) (by simp)
      have p0 := (hb3.cell (p := ⟨g, 0, none⟩) hgw).trans q0
      have p1 := (hb3.cell (p := ⟨g, 1, none⟩) hgw).trans q1
      clear hg3
      go_wp2
      go_loopw [4, 5, 24] (fun _ _ i wr => ∃ (k : Nat) (xs : List Value), k ≤ R.length ∧ i = .int .i64 k ∧ Below w2.heap.size w2 wr ∧ wr.ownsRow w2.heap.size 9 1 (.slice (some ⟨w2.heap.size, 0, none⟩) R.length R.length) R.length xs ∧ Hid (xs.take k = ((R.map (textF m)).map Value.string).take k)) (fun _ _ i _ => R.length - (intOf i).toNat)
      case atStart => exact ⟨0, _, Nat.zero_le _, rfl, hb3, hown3, by exact rfl⟩
      case round =>
        obtain ⟨k, xs, hk, rfl, hbr, hO, hx⟩ := hrel
        clear hb3 hown3
        by_cases hlt : k < R.length
        · obtain ⟨ad, x, rfl, _, hxv, hcell⟩ := (hrd.below hbr).at_ hlt
          obtain ⟨z, hz⟩ : ∃ z, R[k]? = some z := ⟨_, List.getElem?_eq_getElem hlt⟩
          have hGz := unhide HK k x z hxv hz
          have hzp := unhide HP z (List.mem_of_getElem? hz)
          obtain ⟨gx, rfl⟩ := hGz.ptr
          have HI := hide (ih _ lo hi z wr (hGz.below hbr hh) (Nat.le_trans hh hbr.size) (splitOK_yes hzp.1 hzp.2.1) (by omega))
          have HZ := hide hz
          have HO := hide hO
          clear hz hGz hzp hxv hO
          go_wp2_with fail
          refine (unhide HI).mono ?_
          rintro e w4 ⟨rfl, hb4⟩
          have hO4 := own_below (unhide HO) hb4
          have hl : xs.length = R.length := by simpa using hO4.1
          obtain ⟨old, hold⟩ : ∃ old, w4.cell? ⟨w2.heap.size, k, none⟩ = some old := ⟨_, by rw [hO4.cellAt k (by omega)]; exact List.getElem?_eq_getElem (by omega)⟩
          have hfz := hO4.frozenAt k
          have hst := hide (take_set_eq (unhide hx) (show ((R.map (textF m)).map Value.string)[k]? = some (.string (textF m z)) by rw [List.getElem?_map, List.getElem?_map, unhide HZ]; rfl) (by omega))
          have ho2 := (hO4.stored k (.string (textF m z))).1
          have hb2 := below_set_own (below_after hbr hb4) hO4 k (.string (textF m z))
          clear HI hb4 hbr hO4 hcell hl hx
          go_wp2
          go_roundw
          case rel => exact ⟨k + 1, _, by omega, by go_num, hb2, ho2, hst⟩
          case measure => simp [intOf]; omega
        · obtain rfl : R.length = k := by omega
          have hlx : xs.length = R.length := by simpa using hO.1
          have hxs : xs = (R.map (textF m)).map Value.string := by
            have h := unhide hx
            rwa [List.take_of_length_le (by omega), List.take_of_length_le (by simp)] at h
          subst hxs
          have r0 := (hbr.cell (p := ⟨g, 0, none⟩) hgw).trans q0
          have r1 := (hbr.cell (p := ⟨g, 1, none⟩) hgw).trans q1
          have HO := hide hO
          have HT2 := hide (unhide HT wr hbr)
          clear hx hlx hO HT
          go_wp2_with fail
          refine (unhide HT2).mono ?_
          rintro e w4 ⟨rfl, hb4⟩
          have hO4 := own_below (unhide HO) hb4
          have hbw4 := below_after hbr hb4
          have hX7 : 20 ^ (m + 1) ≤ 1280000000 := Nat.pow_le_pow_right (n := 20) (by decide) (show m + 1 ≤ 7 by omega)
          have hjs : ∀ s ∈ R.map (textF m), s.size ≤ 1280000000 := fun s hs => by
            obtain ⟨z, _, rfl⟩ := List.mem_map.1 hs
            exact Nat.le_trans (textF_size m z) hX7
          have hmul : ∀ k, k ≤ R.length → k * (1280000000 + 1) ≤ 4398046511104 := fun k hk => by omega
          have hj := jn_eq sepT (R.map (textF m)) (R.map (textF m)).length (Nat.le_refl _)
          rw [List.take_length] at hj
          have hlen := Nat.le_trans (jn_le hjs (R.map (textF m)).length (Nat.le_refl _)) (hmul (R.map (textF m)).length (by rw [List.length_map]; exact Nat.le_refl _))
          rw [hj] at hlen
          have H7 := hide (ijoin_row w2.heap.size R.length R.length (R.map (textF m)) sepT w4 _ hO4 (by omega) (Nat.le_refl _) hlen)
          rw [← hj] at H7
          have hbs := barsz hjs
          have HBS := hide hbs
          clear hX7 hjs hmul hbs HT2 hO4 hj hlen hb4
          go_wp2_with fail
          refine (unhide H7).mono ?_
          rintro e w5 ⟨rfl, hb5⟩
          have hbw5 := below_after hbw4 hb5
          have hJ : (⟨(jn sepT (R.map (textF m)) (R.map (textF m)).length).toArray⟩ : ByteArray) = barT (R.map (textF m)) := rfl
          rw [hJ]
          have hJs : (barT (R.map (textF m))).size ≤ 20000000000 := by
            have := unhide HBS
            rw [List.length_map] at this
            omega
          have HD2 := hide (unhide HD)
          clear HD HBS hJ H7 hb5 hbw4
          generalize barT (R.map (textF m)) = J at HD2 hJs ⊢
          generalize ptext (rootP zs) = T at HD2 hsz ⊢
          go_wp2
          go_ret
          exact ⟨by rw [unhide HD2]; rfl, hbw5⟩

set_option maxHeartbeats 1600000 in
theorem itreetext_any (m : Nat) (A : Option Addr) (n c B : Nat) (zs : List Int) (w : World) (h : Arg w B A n c zs) (hn : n ≤ m + 1) (hm : m ≤ 7) :
    Calls Tryz.prog 12 #[.slice A n c] w (GivesS w (textF m zs)) := by
  obtain ⟨b, hb⟩ : ∃ b, splitOK zs = b := ⟨_, rfl⟩
  cases b with
  | false =>
    have H0 := hide (grow_no A n c B zs w h hb)
    rw [textF_no hb]
    clear h hb
    go_enter Tryz.func12, Tryz.ntmps12
    go_wp2_with fail
    refine (unhide H0).mono ?_
    rintro e w2 ⟨rfl, hb2⟩
    clear H0
    go_wp2
    go_ret
    exact ⟨rfl, hb2⟩
  | true =>
    have H0 := hide (grow_any m A n c B zs w h hb hn (by omega))
    have HB := hide hb
    clear h hb
    go_enter Tryz.func12, Tryz.ntmps12
    go_wp2_with fail
    refine (unhide H0).mono ?_
    rintro e w2 ⟨v, rfl, hG, hb2⟩
    have H1 := hide (text_any m v _ _ zs w2 hG (Nat.le_refl _) (unhide HB) hm)
    clear H0 hG
    go_wp2_with fail
    refine (unhide H1).mono ?_
    rintro e w3 ⟨rfl, hb3⟩
    clear H1
    go_wp2
    go_ret
    exact ⟨rfl, below_after hb2 hb3⟩
end Go.Proofs.YtinnlhfdgbeibaaGreat


/-
  slices.SortFunc over rows of rows, under impl.comparePerms.
-/

namespace Go.Proofs.YtinnlhfdgbeibaaGreat
set_option maxRecDepth 100000
open Go.RowKit

/-! rows, each with what it holds -/
abbrev Pr := Value × List Int
structure RowPrs (w : World) (B : Nat) (xs : List Pr) : Prop where
  row : ∀ q ∈ xs, Ints w B q.1 q.2
  away : xs.Pairwise fun a b => Away a.1 b.1
theorem RowPrs.inner {w : World} {B : Nat} {xs : List Pr} (h : RowPrs w B xs) : Inner w B (xs.map (·.1)) (xs.map (·.2)) := by
  refine ⟨by simp, fun i u zs hu hz => ?_, ?_⟩
  · rw [List.getElem?_map] at hu hz
    cases hq : xs[i]? with
    | none => rw [hq] at hu; cases hu
    | some q =>
      rw [hq] at hu hz
      cases hu; cases hz
      exact h.row q (List.mem_of_getElem? hq)
  · rw [List.pairwise_map]
    exact h.away
theorem Inner.prs {w : World} {B : Nat} {vs : List Value} {zss : List (List Int)} (h : Inner w B vs zss) : ∃ xs : List Pr, xs.map (·.1) = vs ∧ xs.map (·.2) = zss ∧ RowPrs w B xs := by
  have h1 : (vs.zip zss).map (·.1) = vs := List.map_fst_zip (by rw [h.len]; exact Nat.le_refl _)
  have h2 : (vs.zip zss).map (·.2) = zss := List.map_snd_zip (by rw [h.len]; exact Nat.le_refl _)
  refine ⟨vs.zip zss, h1, h2, fun q hq => ?_, ?_⟩
  · obtain ⟨i, hi, rfl⟩ := List.getElem_of_mem hq
    rw [List.length_zip] at hi
    exact h.row i _ _ (by rw [List.getElem_zip]; exact List.getElem?_eq_getElem (by omega)) (by rw [List.getElem_zip]; exact List.getElem?_eq_getElem (by omega))
  · have := h.away
    rw [← h1, List.pairwise_map] at this
    exact this
theorem RowPrs.sub {w : World} {B : Nat} {xs ys : List Pr} (h : RowPrs w B xs) (hs : ys.Sublist xs) : RowPrs w B ys := ⟨fun q hq => h.row q (hs.subset hq), h.away.sublist hs⟩
theorem RowPrs.perm {w : World} {B : Nat} {xs ys : List Pr} (h : RowPrs w B xs) (hp : ys.Perm xs) : RowPrs w B ys :=
  ⟨fun q hq => h.row q (hp.subset hq), (hp.pairwise_iff (fun {_ _} h => h.symm)).2 h.away⟩
theorem RowPrs.keepI {w w' : World} {B : Nat} {xs : List Pr} (h : RowPrs w B xs) (hk : KeepI w w') : RowPrs w' B xs := ⟨fun q hq => (h.row q hq).keepI hk, h.away⟩

/-! the sort -/
structure El (w : World) (B : Nat) where
  q : Pr
  row : Ints w B q.1 q.2
  perm : isP q.2 = true
def El.enc {w : World} {B : Nat} (x : El w B) : Value := x.q.1
def El.cf {w : World} {B : Nat} (x y : El w B) : Int := cmpV x.q.2 y.q.2
theorem els {w : World} {B : Nat} : ∀ xs : List Pr, (∀ q ∈ xs, Ints w B q.1 q.2 ∧ isP q.2 = true) → ∃ ds : List (El w B), ds.map (·.q) = xs
  | [], _ => ⟨[], rfl⟩
  | q :: xs, h => by
    obtain ⟨ds, hd⟩ := els xs fun q hq => h q (by simp [hq])
    exact ⟨⟨q, (h q (by simp)).1, (h q (by simp)).2⟩ :: ds, by rw [List.map_cons, hd]⟩
theorem El.one {w : World} {B : Nat} : OneCell (El.enc (w := w) (B := B)) := fun x => by
  obtain ⟨A, c, h⟩ := x.row.slice
  unfold El.enc
  rw [h]; rfl
theorem El.swo {w : World} {B : Nat} : Sort.SWO (ltOf (El.cf (w := w) (B := B))) where
  irrefl x := by unfold ltOf El.cf; rw [cmpV_befL]; exact befL_irrefl _
  trans x y z h1 h2 := by unfold ltOf El.cf at *; rw [cmpV_befL] at *; exact befL_trans h1 h2
  ntrans x y z h1 h2 := by
    unfold ltOf El.cf at *
    rw [cmpV_befL] at *
    cases h3 : befL x.q.2 z.q.2 with
    | false => rfl
    | true =>
      have h4 := befL_le_lt h1 h3
      rw [h2] at h4; cases h4
theorem take_put {α : Type} [Inhabited α] (enc : α → Value) (cur : Array Value) (d : Array α) (h : d.size ≤ cur.size) : (Sort.putCells enc 0 d cur).toList.take d.size = d.toList.map enc := by
  apply List.ext_getElem?
  intro j
  by_cases hj : j < d.size
  · rw [List.getElem?_take_of_lt hj, Array.getElem?_toList]
    simp [Sort.putCells, hj, show j < cur.size by omega]
  · rw [List.getElem?_take_eq_none (by omega), List.getElem?_eq_none (by simp; omega)]
theorem heap_put {α : Type} [Inhabited α] (enc : α → Value) {w : World} {g m : Nat} {os : Array Obj} {cur : Array Value} {e : TypeId} {fr : Nat × Nat} (d : Array α) (hb : w.heap[g]? = some (.cells cur e fr)) :
    (sortWorld enc w g 0 m d os).heap[g]? = some (.cells (Sort.putCells enc 0 d cur) e fr) := by
  have hg : g < w.heap.size := (Array.getElem?_eq_some_iff.1 hb).1
  unfold sortWorld
  rw [Sort.heap_grow_old _ _ (by simpa using hg)]
  simp [Sort.putRow, Sort.mapBlock, Sort.ahead, Array.getElem?_modify, hb, Sort.onCells]
theorem heap_far {α : Type} [Inhabited α] (enc : α → Value) {w : World} {g m : Nat} {os : Array Obj} (d : Array α) {i : Nat} (hi : i < w.heap.size) (hne : g ≠ i) : (sortWorld enc w g 0 m d os).heap[i]? = w.heap[i]? := by
  unfold sortWorld
  rw [Sort.heap_grow_old _ _ (by simpa using hi)]
  simp [Sort.putRow, Sort.mapBlock, Sort.ahead, Array.getElem?_modify, hne]
theorem size_sorted {α : Type} [Inhabited α] (enc : α → Value) (w : World) (g m : Nat) (os : Array Obj) (d : Array α) : w.heap.size ≤ (sortWorld enc w g 0 m d os).heap.size := by unfold sortWorld; simp
theorem grown_sorted {α : Type} [Inhabited α] (enc : α → Value) (w : World) (g m : Nat) (os : Array Obj) (d : Array α) : w.grownBy (sortWorld enc w g 0 m d os) (some g) :=
  ⟨rfl, rfl, rfl, size_sorted enc w g m os d, fun _ hk hne => heap_far enc d hk fun e => hne (by rw [e])⟩
theorem own_sorted {α : Type} [Inhabited α] (enc : α → Value) {w : World} {B g n cap m : Nat} {e : TypeId} {os : Array Obj} {xs : List Value} (d : Array α) (hd : d.size = n) (h : w.ownsRow B e 1 (.slice (some ⟨g, 0, none⟩) n cap) n xs) :
    (sortWorld enc w g 0 m d os).ownsRow B e 1 (.slice (some ⟨g, 0, none⟩) n cap) n (d.toList.map enc) := by
  refine ⟨by simp [hd], ?_⟩
  rcases h.2 with ⟨hv, _⟩ | ⟨g', cap', cur, hv, hb, hg, hnc, hc, hsz, ht⟩
  · cases hv
  · injection hv with h1 h2 h3
    injection h1 with h1
    injection h1 with h1
    subst h1; subst h3
    exact .inr ⟨g, cap, _, rfl, hb, heap_put enc d hg, hnc, hc, by simpa [Sort.putCells] using hsz, by rw [Nat.mul_one, ← hd]; exact take_put enc cur d (by omega)⟩
theorem holds_own {α : Type} [Inhabited α] (enc : α → Value) {w : World} {B g n cap : Nat} {e : TypeId} (ds : List α) (h : w.ownsRow B e 1 (.slice (some ⟨g, 0, none⟩) n cap) n (ds.map enc)) : Sort.Holds enc w g 0 ds.toArray := by
  have hl : ds.length = n := by simpa using h.1
  intro j hj
  have hj' : j < ds.length := by simpa using hj
  refine ⟨?_, by rw [Nat.zero_add]; exact h.frozenAt j⟩
  rw [Nat.zero_add, h.cellAt j (by omega)]
  simp [hj']

/-- A row of rows, sorted: the same rows, in order. -/
def Sorted (w : World) (B g n cap : Nat) (xs : List Pr) (e : Ending) (w' : World) : Prop :=
  e = .returned (.tuple #[]) ∧ ∃ ys : List Pr, ys.Perm xs ∧ (∀ (i j : Nat) (x y : Pr), i < j → ys[i]? = some x → ys[j]? = some y → befL y.2 x.2 = false) ∧
    w'.ownsRow B 24 1 (.slice (some ⟨g, 0, none⟩) n cap) n (ys.map (·.1)) ∧ w.grownBy w' (some g)
theorem sort_any (w : World) (B g n cap : Nat) (xs : List Pr) (hown : w.ownsRow B 24 1 (.slice (some ⟨g, 0, none⟩) n cap) n (xs.map (·.1))) (hx : RowPrs w B xs) (hP : ∀ q ∈ xs, isP q.2 = true) (hn : n ≤ 1048576) :
    Calls Tryz.prog 76 #[.slice (some ⟨g, 0, none⟩) n cap, .func (.func 77) #[] #[]] w (Sorted w B g n cap xs) := by
  have hl : xs.length = n := by simpa using hown.1
  cases xs with
  | nil =>
    obtain rfl : n = 0 := by simpa using hl.symm
    refine (Tryz.slices_SortFunc_none (α := Unit) _ _ _ w).mono ?_
    rintro e w' ⟨rfl, rfl⟩
    exact ⟨rfl, [], List.Perm.refl _, fun i j x y _ h => by simp at h, hown, World.grownBy.refl _ _⟩
  | cons q xs =>
    obtain ⟨ds, hds⟩ := els (q :: xs) fun p hp => ⟨hx.row p hp, hP p hp⟩
    have hq := hx.row q (by simp)
    have hqP := hP q (by simp)
    letI : Inhabited (El w B) := ⟨⟨q, hq, hqP⟩⟩
    have henc : ds.map El.enc = (q :: xs).map (·.1) := by rw [← hds, List.map_map]; rfl
    have hdl : ds.length = n := by rw [← hl, ← hds, List.length_map]
    have hg := (hown.lt g rfl).2
    have eg : ∀ args w, (callFunc 77 args).run Tryz.prog w = .ok (.enter 77 args) w := enters_of Tryz.func77 (by kernel_rfl) rfl
    have hcmp : CmpLays1 Tryz.prog 77 #[] (El.enc (w := w) (B := B)) El.cf g 0 ds.toArray.size w := fun m os dk hs x y => by
      have hk : KeepI w (sortWorld El.enc w g 0 m dk os) := by
        have hgr := grown_sorted (El.enc (w := w) (B := B)) w g m os dk
        exact KeepI.of_grown hown hgr
      obtain ⟨A1, c1, h1⟩ := x.row.slice
      obtain ⟨A2, c2, h2⟩ := y.row.slice
      have i1 := x.row.keepI hk
      have i2 := y.row.keepI hk
      show Calls _ _ #[x.q.1, y.q.1] _ _
      rw [h1] at i1 ⊢
      rw [h2] at i2 ⊢
      exact comparePerms_any A1 A2 _ c1 _ _ c2 _ x.q.2 y.q.2 _ (i1.argP x.perm) (i2.argP y.perm)
    have hcon := Tryz.slices_SortFunc (El.enc (w := w) (B := B)) El.one El.cf El.swo 77 #[] g 0 cap ds.toArray w eg hcmp (holds_own El.enc ds (by rw [henc]; exact hown)) hg (by simp; omega)
    rw [show ds.toArray.size = n by simpa using hdl] at hcon
    refine hcon.mono ?_
    rintro e w' ⟨rfl, d', m, os, hp, hs, rfl⟩
    obtain ⟨p1, _, p3⟩ := hp
    have hd' : d'.size = n := by rw [p1]; simpa using hdl
    have hperm : d'.toList.Perm ds := by
      have h1 : d'.extract 0 n = d' := by rw [← hd']; simp
      have h2 : ds.toArray.extract 0 n = ds.toArray := by rw [← hdl]; simp
      rw [h1, h2] at p3
      simpa using p3
    refine ⟨rfl, d'.toList.map (·.q), by rw [← hds]; exact hperm.map _, fun i j x y hij hi hj => ?_, ?_, grown_sorted _ _ _ _ _ _⟩
    · rw [List.getElem?_map] at hi hj
      have hjn : j < n := by
        cases hq : d'.toList[j]? with
        | none => rw [hq] at hj; cases hj
        | some u => have := (List.getElem?_eq_some_iff.1 hq).1; simpa [hd'] using this
      have := hs i j (Nat.zero_le _) hij hjn
      unfold ltOf El.cf at this
      rw [cmpV_befL] at this
      rw [getElem!_pos d' i (by omega), getElem!_pos d' j (by omega)] at this
      rw [List.getElem?_eq_getElem (by simp; omega)] at hi hj
      simp at hi hj
      subst hi; subst hj
      exact this
    · rw [List.map_map]
      exact own_sorted El.enc d' hd' hown
end Go.Proofs.YtinnlhfdgbeibaaGreat


/-
  slices.CompactFunc over rows of rows, under slices.Equal.
-/

namespace Go.Proofs.YtinnlhfdgbeibaaGreat
set_option maxRecDepth 100000
open Go.RowKit

/-! plain -/
theorem keepN_le {α : Type} {f : α → List Int} (xs : List α) (k : Nat) : (keepN f xs k).length ≤ k := by
  have h := (keepN_sub (f := f) xs k).length_le
  rw [List.length_take] at h
  omega
/-- The cells in the midst of the work: what was kept, then what stood there. -/
def midV (xs : List Pr) (j : Nat) : List Value := (keepN (·.2) xs j).map (·.1) ++ (xs.map (·.1)).drop (keepN (·.2) xs j).length
theorem midV_len {xs : List Pr} {j : Nat} (h : j ≤ xs.length) : (midV xs j).length = xs.length := by
  have := keepN_le (f := fun q : Pr => q.2) xs j
  unfold midV
  rw [List.length_append, List.length_drop, List.length_map, List.length_map]
  omega
theorem midV_at {xs : List Pr} {j i : Nat} {q : Pr} (h : (keepN (·.2) xs j).length ≤ i) (hq : xs[i]? = some q) : (midV xs j)[i]? = some q.1 := by
  unfold midV
  rw [List.getElem?_append_right (by rw [List.length_map]; exact h), List.length_map, List.getElem?_drop, show (keepN (·.2) xs j).length + (i - (keepN (·.2) xs j).length) = i by omega, List.getElem?_map, hq]
  rfl
theorem midV_same {xs : List Pr} {k : Nat} {x y : Pr} (h : xs[k]? = some x) (hk : 0 < k) (hy : xs[k - 1]? = some y) (he : y.2 = x.2) : midV xs (k + 1) = midV xs k := by
  unfold midV
  rw [keepN_same (f := fun q : Pr => q.2) h hk hy he]
theorem midV_new {xs : List Pr} {k : Nat} {x y : Pr} (h : xs[k]? = some x) (hy : xs[k - 1]? = some y) (he : y.2 ≠ x.2) : midV xs (k + 1) = (midV xs k).set (keepN (·.2) xs k).length x.1 := by
  have hk : k < xs.length := (List.getElem?_eq_some_iff.1 h).1
  have hle := keepN_le (f := fun q : Pr => q.2) xs k
  unfold midV
  rw [keepN_new (f := fun q : Pr => q.2) h hy he, List.map_append, List.length_append, List.length_singleton, List.map_singleton]
  rw [List.set_append_right _ _ (by rw [List.length_map]; exact Nat.le_refl _), List.length_map, Nat.sub_self]
  rw [List.drop_eq_getElem_cons (show (keepN (fun q : Pr => q.2) xs k).length < (xs.map (·.1)).length by rw [List.length_map]; omega), List.set_cons_zero]
  simp
theorem keepN_all {xs : List Pr} {k : Nat} {x y : Pr} (h : keepN (·.2) xs k = xs.take k) (hx : xs[k]? = some x) (hy : xs[k - 1]? = some y) (he : y.2 ≠ x.2) : keepN (·.2) xs (k + 1) = xs.take (k + 1) := by
  rw [keepN_new (f := fun q : Pr => q.2) hx hy he, h, List.take_add_one, hx]
  rfl
theorem keepN_first {xs : List Pr} (h : 0 < xs.length) : keepN (·.2) xs 1 = xs.take 1 := by
  rw [keepN_one (List.getElem?_eq_getElem h), List.take_add_one, List.getElem?_eq_getElem h]
  rfl
theorem midV_take {xs : List Pr} {k : Nat} (h : keepN (·.2) xs k = xs.take k) : midV xs k = xs.map (·.1) := by
  unfold midV
  rw [h, List.length_take]
  by_cases hk : k ≤ xs.length
  · rw [Nat.min_eq_left hk, List.map_take, List.take_append_drop]
  · rw [Nat.min_eq_right (by omega), List.take_of_length_le (by omega), List.drop_of_length_le (by rw [List.length_map]; exact Nat.le_refl _), List.append_nil]

/-! memory -/
theorem own_cells {B g n cap : Nat} {e : TypeId} : ∀ (vs : List Value) (o : Nat) (w : World) (xs : List Value), w.ownsRow B e 1 (.slice (some ⟨g, 0, none⟩) n cap) n xs →
    ∃ ys, (w.setCells g o vs).ownsRow B e 1 (.slice (some ⟨g, 0, none⟩) n cap) n ys ∧ ys.take o = xs.take o ∧ w.grownBy (w.setCells g o vs) (some g)
  | [], o, w, xs, h => ⟨xs, h, rfl, World.grownBy.refl _ _⟩
  | v :: vs, o, w, xs, h => by
    have h1 := h.stored o v
    obtain ⟨ys, h2, h3, h4⟩ := own_cells vs (o + 1) _ _ h1.1
    refine ⟨ys, h2, ?_, grown_then h1.2 h4⟩
    have := congrArg (List.take o) h3
    rw [List.take_take, List.take_take, Nat.min_eq_left (by omega)] at this
    rw [this, List.take_set_of_le (Nat.le_refl _)]
theorem Arg.drewN {w : World} {B n c : Nat} {A : Option Addr} {zs : List Int} (h : Arg w B A n c zs) (k : Nat) : Arg (w.drewN k) B A n c zs := ⟨h.reads.drewN k, h.under, h.le, h.cap, h.small, h.nil⟩
theorem decide_same {p q : List Int} (h : decide (p = q) = true) : q = p := (of_decide_eq_true h).symm
theorem decide_diff {p q : List Int} (h : decide (p = q) = false) : q ≠ p := fun e => of_decide_eq_false h e.symm
/-- Where a row stands in the midst of CompactFunc. -/
structure Mid (w wr : World) (B g n cap : Nat) (xs : List Pr) (j : Nat) : Prop where
  own : wr.ownsRow B 24 1 (.slice (some ⟨g, 0, none⟩) n cap) n (midV xs j)
  grown : w.grownBy wr (some g)
theorem Mid.cell {w wr : World} {B g n cap j i : Nat} {xs : List Pr} {q : Pr} (h : Mid w wr B g n cap xs j) (hi : (keepN (·.2) xs j).length ≤ i) (hn : i < n) (hq : xs[i]? = some q) : wr.cell? ⟨g, i, none⟩ = some q.1 := by
  rw [h.own.cellAt i (by omega)]
  exact midV_at hi hq
theorem Mid.drewN {w wr : World} {B g n cap j : Nat} {xs : List Pr} (h : Mid w wr B g n cap xs j) (k : Nat) : Mid w (wr.drewN k) B g n cap xs j := ⟨own_below h.own ((Drew.refl wr).more k |>.below _), grown_then h.grown (grown_of_below ((Drew.refl wr).more k |>.below _) _)⟩

def Compacted (w : World) (B g cap : Nat) (xs : List Pr) (e : Ending) (w' : World) : Prop :=
  e = .returned (.slice (some ⟨g, 0, none⟩) (keepN (·.2) xs xs.length).length cap) ∧ w'.ownsRow B 24 1 (.slice (some ⟨g, 0, none⟩) (keepN (·.2) xs xs.length).length cap) (keepN (·.2) xs xs.length).length ((keepN (·.2) xs xs.length).map (·.1)) ∧ w.grownBy w' (some g)

set_option maxHeartbeats 1600000 in
theorem compact_any (w : World) (B g n cap : Nat) (xs : List Pr) (hown : w.ownsRow B 24 1 (.slice (some ⟨g, 0, none⟩) n cap) n (xs.map (·.1))) (hx : RowPrs w B xs) (hP : ∀ q ∈ xs, isP q.2 = true) (hn : n ≤ 1048576) (hnc : n ≤ cap) :
    Calls Tryz.prog 78 #[.slice (some ⟨g, 0, none⟩) n cap, .func (.func 39) #[] #[]] w (Compacted w B g cap xs) := by
  have hl : xs.length = n := by simpa using hown.1
  by_cases h2 : n < 2
  · have hk : keepN (·.2) xs xs.length = xs := by
      rw [hl]
      by_cases h0 : n = 0
      · subst h0
        obtain rfl := List.eq_nil_of_length_eq_zero hl
        rfl
      · obtain rfl : n = 1 := by omega
        rw [keepN_first (by omega), List.take_of_length_le (by omega)]
    have hfin : Compacted w B g cap xs (.returned (.slice (some ⟨g, 0, none⟩) n cap)) w := by
      unfold Compacted
      rw [hk, hl]
      exact ⟨rfl, hown, World.grownBy.refl _ _⟩
    clear hk hown hx hP
    go_enter Tryz.func78, Tryz.ntmps78
    go_wp2
    go_ret
    exact hfin
  · have HL := hide hl
    have HX := hide hx
    have HP := hide hP
    have hstart : Mid w w B g n cap xs 1 := ⟨by rw [midV_take (keepN_first (by omega))]; exact hown, World.grownBy.refl _ _⟩
    have HOWN := hide hown
    clear hl hx hP hown
    go_enter Tryz.func78, Tryz.ntmps78
    go_wp2
    go_loopw [5] (fun i wr => ∃ k : Nat, 1 ≤ k ∧ k ≤ n ∧ i = .int .i64 k ∧ Mid w wr B g n cap xs k ∧ Hid (keepN (·.2) xs k = xs.take k)) (fun i _ => n - (intOf i).toNat)
    case atStart => exact ⟨1, Nat.le_refl _, by omega, rfl, hstart, by exact keepN_first (by rw [unhide HL]; omega)⟩
    case round =>
      obtain ⟨k, hk1, hk, rfl, hM, hKeep⟩ := hrel
      clear hstart
      by_cases hlt : k < n
      · obtain ⟨j, rfl⟩ : ∃ j, k = j + 1 := ⟨k - 1, by omega⟩
        have hkl := keepN_le (f := fun q : Pr => q.2) xs (j + 1)
        have hkj : (keepN (·.2) xs (j + 1)).length = j + 1 := by rw [unhide hKeep, List.length_take, unhide HL]; omega
        have hqx : xs[j + 1]? = some (xs[j + 1]'(by rw [unhide HL]; exact hlt)) := List.getElem?_eq_getElem _
        have hqy : xs[j]? = some (xs[j]'(by rw [unhide HL]; omega)) := List.getElem?_eq_getElem _
        generalize xs[j + 1]'(by rw [unhide HL]; exact hlt) = x at hqx
        generalize xs[j]'(by rw [unhide HL]; omega) = y at hqy
        obtain ⟨vx, px⟩ := x
        obtain ⟨vy, py⟩ := y
        have hmv := midV_take (unhide hKeep)
        have hcx : wr.cell? ⟨g, j + 1, none⟩ = some vx := by rw [hM.own.cellAt (j + 1) (by omega), hmv, List.getElem?_map, hqx]; rfl
        have hcy : wr.cell? ⟨g, j, none⟩ = some vy := by rw [hM.own.cellAt j (by omega), hmv, List.getElem?_map, hqy]; rfl
        have hkI : KeepI w wr := by
          have h0 := KeepI.of_grown (w' := wr) (v := .slice (some ⟨g, 0, none⟩) n cap) (unhide HOWN) hM.grown
          exact h0
        have ix : Ints wr B vx px := ((unhide HX).row _ (List.mem_of_getElem? hqx)).keepI hkI
        have iy : Ints wr B vy py := ((unhide HX).row _ (List.mem_of_getElem? hqy)).keepI hkI
        have hxP : isP px = true := unhide HP _ (List.mem_of_getElem? hqx)
        have hyP : isP py = true := unhide HP _ (List.mem_of_getElem? hqy)
        obtain ⟨A1, c1, rfl⟩ := ix.slice
        obtain ⟨A2, c2, rfl⟩ := iy.slice
        obtain ⟨b, hb⟩ : ∃ b, decide (px = py) = b := ⟨_, rfl⟩
        have HE := hide (fun k => eqsl_any A1 A2 _ c1 _ _ c2 _ px py b hb (wr.drewN k) ((ix.argP hxP).drewN k) ((iy.argP hyP).drewN k))
        have HM := hide hM
        have HC := hide (And.intro hqx hqy)
        have HKJ := hide hkj
        have HMV := hide hmv
        clear hM hmv hkI ix iy hxP hyP hkl hkj hqx hqy
        have hbd0 : (0 : Int) ≤ (j : Int) + 1 := by omega
        have hbd1 : (j : Int) + 1 < (n : Int) := by omega
        have hbd2 : (j : Int) < (n : Int) := by omega
        have hwj : IntKind.i64.wrap (j : Int) = (j : Int) := by rw [IntKind.wrap_i64]; omega
        cases b with
        | false =>
          have hnext := hide (keepN_all (unhide hKeep) (unhide HC).1 (unhide HC).2 (decide_diff hb))
          clear hb hKeep
          go_wp2
          go_quiet ((go_at_call 39; exact Calls.quiet_of (unhide HE _)))
          go_wp2
          go_roundw
          case rel => exact ⟨j + 1 + 1, by omega, by omega, by go_num, ⟨by rw [(midV_take (unhide hnext)).trans (unhide HMV).symm]; exact ((unhide HM).drewN nq).own, ((unhide HM).drewN _).grown⟩, hnext⟩
          case measure => simp [intOf]; omega
        | true =>
          have hsm := decide_same hb
          have hkn := keepN_same (f := fun q : Pr => q.2) (unhide HC).1 (by omega) (unhide HC).2 hsm
          have hmn := midV_same (unhide HC).1 (by omega) (unhide HC).2 hsm
          have HK2 := hide (show (keepN (·.2) xs (j + 1 + 1)).length = j + 1 from (congrArg List.length hkn).trans (unhide HKJ))
          have HM2 := hide (fun k => (show Mid w (wr.drewN k) B g n cap xs (j + 1 + 1) from ⟨by rw [hmn]; exact ((unhide HM).drewN k).own, ((unhide HM).drewN k).grown⟩))
          have hcne : ¬ cap = j + 1 := by omega
          clear hb hKeep hsm hkn hmn HM HMV
          go_wp2
          go_quiet ((go_at_call 39; exact Calls.quiet_of (unhide HE _)))
          go_wp2
          obtain ⟨W, hW⟩ : ∃ W, W = wr.drewN nq := ⟨_, rfl⟩
          have HM3 : Mid w W B g n cap xs (j + 1 + 1) := by rw [hW]; exact unhide HM2 nq
          rw [← hW]
          clear HM2 HE HC hcx hcy hW
          rw [show ((j + 1 : Nat) : Int) = (j : Int) + 1 by omega]
          go_loopw [5, 7] (fun kv iv wr2 => ∃ k2 m : Nat, 1 ≤ k2 ∧ j + 1 + k2 ≤ n ∧ m < j + 1 + k2 ∧ kv = .int .i64 m ∧ iv = .int .i64 k2 ∧ Mid w wr2 B g n cap xs (j + 1 + k2) ∧ Hid ((keepN (·.2) xs (j + 1 + k2)).length = m)) (fun _ iv _ => n - (intOf iv).toNat)
          case atStart => exact ⟨1, j + 1, Nat.le_refl _, by omega, by omega, by go_num, by go_num, HM3, HK2⟩
          case round =>
            obtain ⟨k2, m, hk21, hk2n, hmk, rfl, rfl, hM, hm⟩ := hrel
            clear HM3 HK2
            by_cases hlt2 : j + 1 + k2 < n
            · obtain ⟨i, rfl⟩ : ∃ i, k2 = i + 1 := ⟨k2 - 1, by omega⟩
              obtain ⟨q, hq⟩ : ∃ q, q = j + 1 + i := ⟨_, rfl⟩
              have hq1 : j + 1 + (i + 1) = q + 1 := by omega
              rw [hq1] at hM hm
              have hqx : xs[q + 1]? = some (xs[q + 1]'(by rw [unhide HL]; omega)) := List.getElem?_eq_getElem _
              have hqy : xs[q]? = some (xs[q]'(by rw [unhide HL]; omega)) := List.getElem?_eq_getElem _
              generalize xs[q + 1]'(by rw [unhide HL]; omega) = x at hqx
              generalize xs[q]'(by rw [unhide HL]; omega) = y at hqy
              obtain ⟨vx, px⟩ := x
              obtain ⟨vy, py⟩ := y
              have hcx := hM.cell (by rw [unhide hm]; omega) (by omega) hqx
              have hcy := hM.cell (by rw [unhide hm]; omega) (by omega) hqy
              rw [show q + 1 = j + 1 + (i + 1) by omega] at hcx
              rw [hq] at hcy
              have hkI : KeepI w wr := KeepI.of_grown (w' := wr) (v := .slice (some ⟨g, 0, none⟩) n cap) (unhide HOWN) hM.grown
              have ix : Ints wr B vx px := ((unhide HX).row _ (List.mem_of_getElem? hqx)).keepI hkI
              have iy : Ints wr B vy py := ((unhide HX).row _ (List.mem_of_getElem? hqy)).keepI hkI
              have hxP : isP px = true := unhide HP _ (List.mem_of_getElem? hqx)
              have hyP : isP py = true := unhide HP _ (List.mem_of_getElem? hqy)
              obtain ⟨A1, c1, rfl⟩ := ix.slice
              obtain ⟨A2, c2, rfl⟩ := iy.slice
              obtain ⟨b, hb⟩ : ∃ b, decide (px = py) = b := ⟨_, rfl⟩
              have HE := hide (fun k => eqsl_any A1 A2 _ c1 _ _ c2 _ px py b hb (wr.drewN k) ((ix.argP hxP).drewN k) ((iy.argP hyP).drewN k))
              have HM := hide hM
              have HC := hide (And.intro hqx hqy)
              have HQ2 : Hid (j + 1 + (i + 1 + 1) = q + 1 + 1) := (by omega : j + 1 + (i + 1 + 1) = q + 1 + 1)
              have HQ := hide hq
              clear hM hkI ix iy hxP hyP hqx hqy hq hq1
              have hbi0 : (0 : Int) ≤ (i : Int) + 1 := by omega
              have hbi1 : (i : Int) + 1 < ((n - (j + 1) : Nat) : Int) := by omega
              have hbi2 : (i : Int) < ((n - (j + 1) : Nat) : Int) := by omega
              have hwi : IntKind.i64.wrap (i : Int) = (i : Int) := by rw [IntKind.wrap_i64]; omega
              cases b with
              | true =>
                have hsm := decide_same hb
                have hkn := keepN_same (f := fun q : Pr => q.2) (unhide HC).1 (by omega) (unhide HC).2 hsm
                have hmn := midV_same (unhide HC).1 (by omega) (unhide HC).2 hsm
                have HK2 := hide ((congrArg List.length hkn).trans (unhide hm))
                have HM2 := hide (fun k => (show Mid w (wr.drewN k) B g n cap xs (q + 1 + 1) from ⟨by rw [hmn]; exact ((unhide HM).drewN k).own, ((unhide HM).drewN k).grown⟩))
                clear hb hsm hkn hmn HM hm
                go_wp2
                go_quiet ((go_at_call 39; exact Calls.quiet_of (unhide HE _)))
                go_wp2
                go_roundw
                case rel => exact ⟨i + 1 + 1, m, by omega, by omega, by omega, rfl, by go_num, by rw [unhide HQ2]; exact unhide HM2 _, by rw [unhide HQ2]; exact HK2⟩
                case measure => simp [intOf]; omega
              | false =>
                have hmn := midV_new (unhide HC).1 (unhide HC).2 (decide_diff hb)
                have hkn := keepN_new (f := fun q : Pr => q.2) (unhide HC).1 (unhide HC).2 (decide_diff hb)
                have HK2 : Hid ((keepN (·.2) xs (q + 1 + 1)).length = m + 1) := hide (by
                  have := congrArg List.length hkn
                  rw [List.length_append, List.length_singleton, unhide hm] at this
                  exact this)
                have hmn2 : n - m ≠ 0 := by omega
                obtain ⟨old, hold⟩ : ∃ old, wr.cell? ⟨g, m, none⟩ = some old := ⟨_, by rw [(unhide HM).own.cellAt m (by omega)]; exact List.getElem?_eq_getElem (by rw [midV_len (by rw [unhide HL]; have := unhide HQ; omega), unhide HL]; omega)⟩
                have hfz := (unhide HM).own.frozenAt m
                have HM2 := hide (fun k => (show Mid w ((wr.drewN k).setCell ⟨g, m, none⟩ (.slice A1 px.length c1)) B g n cap xs (q + 1 + 1) from ⟨by
                  rw [hmn, unhide hm]
                  exact (((unhide HM).drewN k).own.stored m _).1, grown_then ((unhide HM).drewN k).grown (((unhide HM).drewN k).own.stored m _).2⟩))
                have hbm0 : (m : Int) < (n : Int) := by omega
                clear hb hkn hmn HM hm
                go_wp2
                go_quiet ((go_at_call 39; exact Calls.quiet_of (unhide HE _)))
                go_wp2
                go_roundw
                case rel => exact ⟨i + 1 + 1, m + 1, by omega, by omega, by omega, by go_num, by go_num, by rw [unhide HQ2]; exact unhide HM2 _, by rw [unhide HQ2]; exact HK2⟩
                case measure => simp [intOf]; omega
            · have hend : j + 1 + k2 = n := by omega
              rw [hend] at hM hm
              have hmn : m < n := by omega
              have hmc : ¬ cap = m := by omega
              have hbm0 : (m : Int) ≤ (cap : Int) := by omega
              have hbm1 : (m : Int) ≤ (n : Int) := by omega
              have hcl : ∀ ty, (Builtin.clear_ #[26] ty #[.slice (some ⟨g, m, none⟩) (n - m) (cap - m)]).run Tryz.prog wr = .ok (.tuple #[]) (wr.setCells g m (List.replicate (n - m) (.slice none 0 0))) :=
                fun ty => Lib.run_clear_slice wr _ _ ty _ Tryz.underlying26 Tryz.zeroValue24 rfl rfl g m _ _ (by omega) (fun i hi => by rw [hM.own.cellAt (m + i) (by omega), List.getElem?_eq_getElem (by rw [midV_len (by rw [unhide HL]; exact Nat.le_refl _), unhide HL]; omega)]; rfl) (fun i _ => hM.own.frozenAt (m + i))
              obtain ⟨ys, o1, o2, o3⟩ := own_cells (List.replicate (n - m) (.slice none 0 0)) m wr _ hM.own
              have hfin : Compacted w B g cap xs (.returned (.slice (some ⟨g, 0, none⟩) m cap)) (wr.setCells g m (List.replicate (n - m) (.slice none 0 0))) := by
                have h := own_cut o1 (show m ≤ n by omega)
                have h4 : ys.take m = (keepN (·.2) xs n).map (·.1) := by
                  rw [o2]
                  unfold midV
                  rw [List.take_append_of_le_length (by rw [List.length_map, unhide hm]; exact Nat.le_refl _), List.take_of_length_le (by rw [List.length_map, unhide hm]; exact Nat.le_refl _)]
                rw [h4] at h
                unfold Compacted
                rw [unhide HL, unhide hm]
                exact ⟨rfl, h, grown_then hM.grown o3⟩
              clear hM hm o1 o2 o3 HKJ
              go_wp2
              go_ret
              exact hfin
      · obtain rfl : n = k := by omega
        have hfin : Compacted w B g cap xs (.returned (.slice (some ⟨g, 0, none⟩) n cap)) wr := by
          have hk := unhide hKeep
          have hle := unhide HL
          have h := hM.own
          rw [midV_take hk] at h
          unfold Compacted
          rw [hle, hk, List.take_of_length_le (by omega), hle]
          exact ⟨rfl, h, hM.grown⟩
        clear hM hKeep
        go_wp2
        go_ret
        exact hfin
end Go.Proofs.YtinnlhfdgbeibaaGreat


/-
  impl.OrderPerms where its list reads place by place, by its contract.
-/

namespace Go.Proofs.YtinnlhfdgbeibaaGreat
set_option maxRecDepth 100000
open Go.RowKit

/-- What is in order and has each once is known by what it has. -/
theorem kept_ord {zss : List (List Int)} {xs ys : List Pr} (hall : allP zss = true) (hx : xs.map (·.2) = zss) (hp : ys.Perm xs) (hs : ∀ (i j : Nat) (x y : Pr), i < j → ys[i]? = some x → ys[j]? = some y → befL y.2 x.2 = false) :
    (keepN (·.2) ys ys.length).map (·.2) = ordR zss := by
  obtain ⟨h1, h2⟩ := keepN_sorted (f := fun q : Pr => q.2) hs ys.length (Nat.le_refl _)
  rw [ordR_yes hall]
  refine asc_unique h1 (ordL_asc _ _) fun z => ?_
  rw [h2 z, ordL_mem, List.take_length, List.take_length, ← hx]
  exact (hp.map _).mem_iff

set_option maxHeartbeats 1600000 in
theorem iorda_any (A : Option Addr) (n c : Nat) (zss : List (List Int)) (w : World) (hS : AtS w A n zss) (hn : n ≤ 1048576) :
    Calls Tryz.prog 47 #[.slice A n c] w (GivesSS w (ordR zss)) := by
  obtain ⟨i0, hi, hz0, hz1, hz2⟩ := info_parts rowsInfo1
  have hl := hS.1
  have HL := hide hl
  clear hl
  go_enter Tryz.func47, Tryz.ntmps47
  go_wp2_with (first
    | (at_make; refine wpList_make_full _ rfl (.tmp 7) (.tmp 7) 26 rfl w.heap.size 24 i0 (.slice none 0 0) 1 Tryz.underlying26 hi hz0 hz1 _ _ _ _ n rfl rfl (by first | rfl | omega) (by first | rfl | omega) (by rw [hz2]; omega) (by unfold maxLen; omega) (Nat.le_refl _) ?_; intro w1 hown hg))
  have hF := Filled.start (zss := zss) (unhide HL) (Below.refl w.heap.size w) hown hg
  clear hown hg
  obtain ⟨g, hgw⟩ : ∃ g, g = w.heap.size := ⟨_, rfl⟩
  rw [← hgw] at hF ⊢
  clear hgw
  go_loopw [4, 5, 11] (fun _ _ i wr => ∃ k : Nat, k ≤ n ∧ i = .int .i64 k ∧ Filled w wr g n zss k ∧ Hid (∀ z ∈ zss.take k, isP z = true)) (fun _ _ i _ => n - (intOf i).toNat)
  case atStart => exact ⟨0, Nat.zero_le _, rfl, hF, fun z hz => by simp at hz⟩
  case round =>
    obtain ⟨k, hk, rfl, hF, hP⟩ := hrel
    by_cases hlt : k < n
    · obtain ⟨ad, A1, c1, z, rfl, hz, hcell, hA⟩ := hS.2 wr hF.below k hlt
      obtain ⟨b, hb⟩ : ∃ b, isP z = b := ⟨_, rfl⟩
      have H1 := hide (iisperm_any A1 z.length c1 wr.heap.size z b hb wr hA.reads hA.under hA.le hA.small)
      cases b with
      | false =>
        have hr := hide (ordR_no (allP_no (List.mem_of_getElem? hz) hb))
        have hb0 := hF.below
        clear hz hb hA hF hP
        go_wp2_with fail
        refine (unhide H1).mono ?_
        rintro e w2 ⟨rfl, hb⟩
        have hb2 := below_after hb0 hb
        clear H1 hb hb0
        go_wp2
        go_ret
        rw [unhide hr]
        exact GivesSS.mk (IntsS.nil _ _) hb2
      | true =>
        have H2 := hide (fun w' (hb' : Below wr.heap.size wr w') => clone_any A1 z.length c1 wr.heap.size z w' (hA.below hb'))
        have HF := hide hF
        have HZ := hide hz
        have hnext : Hid (∀ z ∈ zss.take (k + 1), isP z = true) := hide (fun y hy => by
          rw [List.take_add_one, hz] at hy
          rcases List.mem_append.1 hy with h | h
          · exact unhide hP y h
          · simp at h
            subst h
            exact hb)
        clear hz hb hA hF hP
        go_wp2_with fail
        refine (unhide H1).mono ?_
        rintro e w2 ⟨rfl, hb⟩
        have H3 := hide (unhide H2 w2 hb)
        clear H1 H2
        go_wp2_with fail
        refine (unhide H3).mono ?_
        rintro e w3 ⟨A3, c3, rfl, o3, d3⟩
        have hb3 := below_after hb d3
        obtain ⟨⟨old, hold⟩, hfz⟩ := (unhide HF).old hb3 hlt
        have hF2 := (unhide HF).put (unhide HZ) hb3 (o3.low hb.size)
        clear H3 hb d3 hb3 o3 HF HZ
        go_wp2
        go_roundw
        case rel => exact ⟨k + 1, by omega, by go_num, hF2, hnext⟩
        case measure => simp [intOf]; omega
    · obtain rfl : n = k := by omega
      have hall : allP zss = true := allP_yes fun z hz => unhide hP z (by rw [List.take_of_length_le (by rw [unhide HL]; exact Nat.le_refl _)]; exact hz)
      obtain ⟨hbw, vs, hown, hin⟩ := hF
      rw [← unhide HL, fillS_all] at hin
      obtain ⟨xs, hx1, hx2, hx⟩ := hin.prs
      rw [← hx1] at hown
      have hxP : ∀ q ∈ xs, isP q.2 = true := fun q hq => allP_at hall (by rw [← hx2]; exact List.mem_map_of_mem hq)
      have H1 := hide (sort_any wr w.heap.size g n n xs hown hx hxP hn)
      have HALL := hide hall
      have HX2 := hide hx2
      have HX := hide hx
      have HXP := hide hxP
      have HOWN := hide hown
      clear hP hall hin hx hxP hx1 hx2 hown
      go_wp2_with fail
      refine (unhide H1).mono ?_
      rintro e w2 ⟨rfl, ys, hperm, hsort, hown2, hg2⟩
      have hk2 := KeepI.of_grown (v := .slice (some ⟨g, 0, none⟩) n n) (unhide HOWN) hg2
      have hy : RowPrs w2 w.heap.size ys := ((unhide HX).perm hperm).keepI hk2
      have hyP : ∀ q ∈ ys, isP q.2 = true := fun q hq => unhide HXP q (hperm.subset hq)
      have hbg := ((unhide HOWN).lt g rfl).1
      have hb2 := hbw.grown hg2 hbw.size (fun q hq => by injection hq with hq; omega)
      have H2 := hide (compact_any w2 w.heap.size g n n ys hown2 hy hyP hn (Nat.le_refl _))
      have HORD := hide (kept_ord (unhide HALL) (unhide HX2) hperm hsort)
      have HY := hide hy
      have HOWN2 := hide hown2
      clear H1 hperm hsort hown2 hg2 hk2 hy hyP hbw
      go_wp2_with fail
      refine (unhide H2).mono ?_
      rintro e w3 ⟨rfl, hown3, hg3⟩
      have hk3 := KeepI.of_grown (v := .slice (some ⟨g, 0, none⟩) n n) (unhide HOWN2) hg3
      have hp3 := ((unhide HY).keepI hk3).sub ((keepN_sub (f := fun q : Pr => q.2) ys ys.length).trans (List.take_sublist _ _))
      have hb3 := hb2.grown hg3 hb2.size (fun q hq => by injection hq with hq; omega)
      have hlen : (ordR zss).length = (keepN (·.2) ys ys.length).length := by rw [← unhide HORD, List.length_map]
      have hfin : IntsS w3 w.heap.size (.slice (some ⟨g, 0, none⟩) (keepN (·.2) ys ys.length).length n) (ordR zss) := by
        refine ⟨(keepN (·.2) ys ys.length).map (·.1), by rw [hlen]; exact hown3, ?_⟩
        rw [← unhide HORD]
        exact hp3.inner
      clear H2 hown3 hg3 hk3 hp3 hlen
      go_wp2
      go_ret
      exact GivesSS.mk hfin hb3

end Go.Proofs.YtinnlhfdgbeibaaGreat


/-
  (*impl.node).roots, impl.RootsIn, by their contracts.
-/

namespace Go.Proofs.YtinnlhfdgbeibaaGreat
set_option maxRecDepth 100000
open Go.RowKit

/-- The values vs are rows between the blocks lo and hi that hold the lists of L; two of them may lie at one place. -/
def RowsAt (w : World) (lo hi : Nat) (vs : List Value) (L : List (List Int)) : Prop := vs.length = L.length ∧ ∀ (i : Nat) (x : Value) (z : List Int), vs[i]? = some x → L[i]? = some z → Ints w lo x z ∧ Until hi x
theorem RowsAt.below {w w' : World} {lo hi B : Nat} {vs : List Value} {L : List (List Int)} (h : RowsAt w lo hi vs L) (hb : Below B w w') (hB : hi ≤ B) : RowsAt w' lo hi vs L :=
  ⟨h.1, fun i x z hx hz => ⟨(h.2 i x z hx hz).1.stay (h.2 i x z hx hz).2 hb hB, (h.2 i x z hx hz).2⟩⟩
theorem RowsAt.nil (w : World) (lo hi : Nat) : RowsAt w lo hi [] [] := ⟨rfl, fun i x z hx => by simp at hx⟩
theorem RowsAt.one {w : World} {lo hi : Nat} {v : Value} {z : List Int} (h : Ints w lo v z) (hu : Until hi v) : RowsAt w lo hi [v] [z] := ⟨rfl, fun i x y hx hy => by
  cases i with
  | zero => simp at hx hy; subst hx; subst hy; exact ⟨h, hu⟩
  | succ i => simp at hx⟩
theorem RowsAt.app {w : World} {lo hi : Nat} {vs us : List Value} {L M : List (List Int)} (h : RowsAt w lo hi vs L) (k : RowsAt w lo hi us M) : RowsAt w lo hi (vs ++ us) (L ++ M) :=
  ⟨by rw [List.length_append, List.length_append, h.1, k.1], fun i x z hx hz => by
    have hl := h.1
    by_cases hi : i < vs.length
    · rw [List.getElem?_append_left hi] at hx
      rw [List.getElem?_append_left (by omega)] at hz
      exact h.2 i x z hx hz
    · rw [List.getElem?_append_right (by omega)] at hx hz
      rw [← hl] at hz
      exact k.2 _ x z hx hz⟩
theorem RowsAt.one_ {w : World} {lo hi : Nat} {vs : List Value} {L : List (List Int)} (h : RowsAt w lo hi vs L) : ∀ u ∈ vs, u.oneCell' = true := fun u hu => by
  obtain ⟨i, hi, rfl⟩ := List.getElem_of_mem hu
  obtain ⟨A, c, e⟩ := (h.2 i _ _ (List.getElem?_eq_getElem hi) (List.getElem?_eq_getElem (by rw [← h.1]; exact hi))).1.slice
  rw [e]; rfl
theorem own_nilcap {w : World} {B n c : Nat} {e : TypeId} {A : Option Addr} {xs : List Value} (h : w.ownsRow B e 1 (.slice A n c) n xs) : A = none → c = 0 := fun hA => by
  rcases h.2 with ⟨hv, _⟩ | ⟨g, cap, cur, hv, _⟩
  · injection hv
  · injection hv with h1; rw [h1] at hA; cases hA
/-- A list that was just built of one row. -/
theorem own_single (w : World) (B : Nat) (hB : B ≤ w.heap.size) (u : Value) : (w.alloc (.cells #[u] 24)).ownsRow B 24 1 (.slice (some ⟨w.heap.size, 0, none⟩) 1 1) 1 [u] :=
  ⟨rfl, .inr ⟨w.heap.size, 1, #[u], rfl, hB, heap_alloc_new w _, Nat.le_refl _, by unfold maxLen; omega, rfl, rfl⟩⟩

def RootEnds (w : World) (lo hi : Nat) (L : List (List Int)) (e : Ending) (w' : World) : Prop :=
  ∃ A c vs, e = .returned (.slice A L.length c) ∧ w'.ownsRow w.heap.size 24 1 (.slice A L.length c) L.length vs ∧ RowsAt w' lo hi vs L ∧ Below w.heap.size w w'
theorem RootEnds.mk {w w' : World} {lo hi n : Nat} {L : List (List Int)} {v : Value} {vs : List Value} (hn : n = L.length) (h : w'.ownsRow w.heap.size 24 1 v n vs) (hr : RowsAt w' lo hi vs L) (hb : Below w.heap.size w w') : RootEnds w lo hi L (.returned v) w' := by
  subst hn
  obtain ⟨A, c, rfl, _⟩ := Reads.of_own h
  exact ⟨A, c, vs, rfl, h, hr, hb⟩

set_option maxHeartbeats 1600000 in
theorem roots_leaf (v : Value) (lo hi : Nat) (zs : List Int) (w : World) (h : NodeAt w lo hi v (rootP zs) (.slice none 0 0)) :
    Calls Tryz.prog 48 #[v] w (RootEnds w lo hi []) := by
  obtain ⟨g, A, c, rfl, _, q0, q1, hI⟩ := h.cells
  have H1 := hide (leaf_any g 0 0 none true rfl w q1)
  clear h hI
  go_enter Tryz.func48, Tryz.ntmps48
  go_wp2_with fail
  refine (unhide H1).mono ?_
  rintro e w2 ⟨rfl, rfl⟩
  clear H1
  go_wp2
  go_ret
  exact RootEnds.mk (vs := []) rfl ⟨rfl, .inl ⟨rfl, rfl⟩⟩ (RowsAt.nil _ _ _) (Below.refl _ _)

set_option maxHeartbeats 1600000 in
theorem roots_any : ∀ (m : Nat) (v : Value) (lo hi : Nat) (zs : List Int) (w : World) (_ : Grown m w lo hi v zs) (_ : hi ≤ w.heap.size) (_ : splitOK zs = true),
    Calls Tryz.prog 48 #[v] w (RootEnds w lo hi (rtsF m zs)) := by
  intro m
  induction m with
  | zero =>
    intro v lo hi zs w h hh hs
    rw [rtsF_low (by rw [h.1]; omega)]
    exact roots_leaf v lo hi zs w (h.leaf h.1)
  | succ m ih =>
    intro v lo hi zs w h hh hs
    by_cases h1 : zs.length = 1
    · rw [rtsF_low (by omega)]
      exact roots_leaf v lo hi zs w (h.leaf h1)
    · obtain ⟨m', A, c, vs, hm', hN, hown, hun, hkids⟩ := h.tree h1
      obtain rfl : m = m' := by omega
      obtain ⟨g, A0, c0, rfl, hgl, hgh, hWn, hI0, hu0⟩ := hN
      have q0 := hWn.cell 0
      have q1 := hWn.cell 1
      have hp := (splitOK_all hs).1
      have HD : Hid (rtsF (m + 1) zs = rtsK m zs (pcsP zs) (pcsP zs).length) := hide (by rw [rtsF_many (by have := (splitOK_all hs).2; omega), rtsK_all])
      have HP := hide (fun z hz => pcsP_at hp z hz)
      have hpc := pcsP_len hp
      have hp0 := pcsP_pos (splitOK_all hs).2
      have hrl := rootP_len hp
      have HF : Hid (∀ k, (rtsK m zs (pcsP zs) k).length ≤ 8) := hide (fun k => by
        have h1 := rtsF_le (m := m + 1) hp
        rw [unhide HD] at h1
        have h2 := flat_take_len (m := m) (k := k) (R := pcsP zs)
        unfold rtsK at h1 ⊢
        rw [List.take_length, List.length_cons] at h1
        rw [List.length_cons]; omega)
      have HFZ := hide (fun z hz => rtsF_le (m := m) (pcsP_at hp z hz).1)
      obtain ⟨R, hR⟩ : ∃ R, pcsP zs = R := ⟨_, rfl⟩
      rw [hR] at hown hun hkids q1 HP hpc HD hp0 HF HFZ
      have HK := hide hkids
      have hvl : vs.length = R.length := by simpa using hown.1
      have hrd := Reads.of_own_at hown
      have H1 := hide (leaf_any g R.length c A false (by rw [beq_eq_false_iff_ne]; omega) w q1)
      rw [unhide HD]
      have hgw : g < w.heap.size := by omega
      have hb0 := (Below.refl _ w).alloc (Nat.le_refl _) (.cells #[.slice A0 (rootP zs).length c0] 24)
      have hO0 := own_single w w.heap.size (Nat.le_refl _) (.slice A0 (rootP zs).length c0)
      have hR0 : RowsAt (w.alloc (.cells #[.slice A0 (rootP zs).length c0] 24)) lo hi [.slice A0 (rootP zs).length c0] (rtsK m zs R 0) := (RowsAt.one hI0 hu0).below hb0 hh
      have HR0 := hide (And.intro hb0 (And.intro hO0 hR0))
      clear h hs hp hR hkids hun hown hI0 hu0 hWn hb0 hO0 hR0 HD
      go_enter Tryz.func48, Tryz.ntmps48
      go_wp2_with fail
      refine (unhide H1).mono ?_
      rintro e w2 ⟨rfl, rfl⟩
      clear H1
      go_wp2
      go_loopw [3, 5, 18] (fun v _ i wr => ∃ (k : Nat) (xs : List Value), k ≤ R.length ∧ i = .int .i64 k ∧ Below w2.heap.size w2 wr ∧ wr.ownsRow w2.heap.size 24 1 v (rtsK m zs R k).length xs ∧ Hid (RowsAt wr lo hi xs (rtsK m zs R k))) (fun _ _ i _ => R.length - (intOf i).toNat)
      case atStart => exact ⟨0, _, Nat.zero_le _, rfl, (unhide HR0).1, (unhide HR0).2.1, (unhide HR0).2.2⟩
      case round =>
        obtain ⟨k, xs, hk, rfl, hbr, hO, hx⟩ := hrel
        clear HR0
        obtain ⟨Av, cv, rfl, _⟩ := Reads.of_own hO
        by_cases hlt : k < R.length
        · obtain ⟨ad, x, rfl, _, hxv, hcell⟩ := (hrd.below hbr).at_ hlt
          obtain ⟨z, hz⟩ : ∃ z, R[k]? = some z := ⟨_, List.getElem?_eq_getElem hlt⟩
          have hGz := unhide HK k x z hxv hz
          have hzp := unhide HP z (List.mem_of_getElem? hz)
          obtain ⟨gx, rfl⟩ := hGz.ptr
          have HI := hide (ih _ lo hi z wr (hGz.below hbr hh) (Nat.le_trans hh hbr.size) (splitOK_yes hzp.1 hzp.2.1))
          have HS := hide (rtsK_step (m := m) (p := zs) hz)
          have hzl := unhide HFZ z (List.mem_of_getElem? hz)
          have hkl := unhide HF k
          have HO := hide hO
          clear hz hGz hzp hxv hO
          obtain ⟨L, hL⟩ : ∃ L, rtsF m z = L := ⟨_, rfl⟩
          rw [hL] at HI HS hzl
          clear hL
          go_wp2_with fail
          refine (unhide HI).mono ?_
          rintro e w4 ⟨A4, c4, ys, rfl, hO4, hR4, hb4⟩
          have hOx := own_below (unhide HO) hb4
          have hRx := (unhide hx).below hb4 (Nat.le_trans hh hbr.size)
          have hb5 := below_after hbr hb4
          have hrd4 := Reads.of_own_at hO4
          have hcap4 := own_nilcap hO4
          have hone4 := hR4.one_
          have HR4 := hide (And.intro hRx hR4)
          have hs5 := hb5.size
          clear HI hO4 hRx hR4 hcell hx HO hbr hb4
          go_wp2_with (first
            | (at_builtin; refine wpList_append_rows rfl (.tmp 22) (.tmp 24) rfl w2.heap.size w4.heap.size (rtsK m zs R k).length L.length c4 w2 _ A4 xs ys rfl rfl hOx hrd4 hcap4 hone4 (by omega) (by omega) hb5 hs5 ?_))
          intro v6 w6 hO6 hb6 hg6 _
          have hR6 := hide ((unhide HR4).1.app (unhide HR4).2)
          rw [← unhide HS] at hR6
          have hl6 : (rtsK m zs R k).length + L.length = (rtsK m zs R (k + 1)).length := by rw [unhide HS, List.length_append]
          rw [hl6] at hO6
          have hR7 : Hid (RowsAt w6 lo hi (xs ++ ys) (rtsK m zs R (k + 1))) := hide (by
            refine ⟨(unhide hR6).1, fun i x y hx hy => ?_⟩
            obtain ⟨h1, h2⟩ := (unhide hR6).2 i x y hx hy
            exact ⟨h1.kept hg6 (by
              cases hq : x.ownBlock with
              | none => exact .inl rfl
              | some q =>
                refine .inr fun e => ?_
                have h3 := h2 q hq
                have h4 := (hOx.lt q e.symm).1
                omega), h2⟩)
          clear hOx hrd4 hcap4 hone4 HR4 hg6 hR6 hl6 hb5
          go_wp2
          go_roundw
          case rel => exact ⟨k + 1, xs ++ ys, by omega, by go_num, hb6, hO6, hR7⟩
          case measure => simp [intOf]; omega
        · obtain rfl : R.length = k := by omega
          go_wp2
          go_ret
          exact RootEnds.mk rfl hO (unhide hx) hbr

theorem RowsAt.atS {w : World} {lo hi B n c : Nat} {A : Option Addr} {vs : List Value} {L : List (List Int)} (hO : w.ownsRow B 24 1 (.slice A n c) n vs) (h : RowsAt w lo hi vs L) (hl : L.length = n) (hp : ∀ z ∈ L, isP z = true) : AtS w A n L :=
  ⟨hl, fun wr hb k hk => by
    obtain ⟨ad, u, hA, _, hu, hc⟩ := (Reads.of_own_at (own_below hO hb)).at_ hk
    have hz : L[k]? = some (L[k]'(by omega)) := List.getElem?_eq_getElem _
    obtain ⟨h1, h2⟩ := h.2 k u _ hu hz
    obtain ⟨A', c', rfl⟩ := h1.slice
    exact ⟨ad, A', c', _, hA, hz, hc, (h1.below hb).argP (hp _ (List.mem_of_getElem? hz))⟩⟩

set_option maxHeartbeats 800000 in
theorem iroots_any (A : Option Addr) (n c B : Nat) (zs : List Int) (w : World) (h : Arg w B A n c zs) :
    Calls Tryz.prog 17 #[.slice A n c] w (GivesSS w (rtsR zs)) := by
  have hl := h.len
  obtain ⟨b, hb⟩ : ∃ b, splitOK zs = b := ⟨_, rfl⟩
  cases b with
  | false =>
    have H0 := hide (grow_no A n c B zs w h hb)
    rw [rtsR_no hb]
    clear h hb hl
    go_enter Tryz.func17, Tryz.ntmps17
    go_wp2_with fail
    refine (unhide H0).mono ?_
    rintro e w2 ⟨rfl, hb2⟩
    clear H0
    go_wp2
    go_ret
    exact GivesSS.mk (IntsS.nil _ _) hb2
  | true =>
    have hp := (splitOK_all hb).1
    have h8 := isP_le hp
    have H0 := hide (grow_any 7 A n c B zs w h hb (by omega) (by omega))
    have HB := hide hb
    have hle := rtsF_le (m := 7) hp
    have HA := hide (rtsF_all 7 hp)
    have HR : Hid (rtsR zs = ordR (rtsF 7 zs)) := hide (by unfold rtsR; rw [if_pos hb])
    rw [unhide HR]
    obtain ⟨L, hL⟩ : ∃ L, rtsF 7 zs = L := ⟨_, rfl⟩
    have HL := hide hL
    rw [hL] at hle HA ⊢
    clear h hb hl hp h8 hL
    go_enter Tryz.func17, Tryz.ntmps17
    go_wp2_with fail
    refine (unhide H0).mono ?_
    rintro e w2 ⟨v, rfl, hG, hb2⟩
    have H1 := hide (roots_any 7 v _ _ zs w2 hG (Nat.le_refl _) (unhide HB))
    rw [unhide HL] at H1
    clear H0 hG
    go_wp2_with fail
    refine (unhide H1).mono ?_
    rintro e w3 ⟨A3, c3, vs, rfl, hO, hR, hb3⟩
    have H2 := hide (iorda_any A3 L.length c3 L w3 (hR.atS hO rfl (unhide HA)) (by omega))
    have hb4 := below_after hb2 hb3
    clear H1 hO hR hb3
    go_wp2_with fail
    refine (unhide H2).mono ?_
    rintro e w4 ⟨A4, c4, rfl, hS, hb5⟩
    clear H2
    go_wp2
    go_ret
    exact GivesSS.mk (hS.low hb4.size) (below_after hb4 hb5)
end Go.Proofs.YtinnlhfdgbeibaaGreat


/-
  spec.IsSeparable, impl.IsSeparable, by their contracts.
-/

namespace Go.Proofs.YtinnlhfdgbeibaaGreat
set_option maxRecDepth 100000
open Go.RowKit

def shortAll (l : List (List Int)) : Bool := l.all fun z => decide (z.length ≤ 2)
def sepR (p : List Int) : Bool := isP p && shortAll (rtsR p)
theorem shortAll_no {l : List (List Int)} {z : List Int} (h : z ∈ l) (hz : 2 < z.length) : shortAll l = false := by
  unfold shortAll
  rw [List.all_eq_false]
  exact ⟨z, h, by simp; omega⟩
theorem shortAll_yes {l : List (List Int)} (h : ∀ z ∈ l, z.length ≤ 2) : shortAll l = true := by
  unfold shortAll
  rw [List.all_eq_true]
  intro z hz
  simpa using h z hz

set_option maxHeartbeats 800000 in
theorem ssep_any (A : Option Addr) (n c B : Nat) (zs : List Int) (w : World) (h : Arg w B A n c zs) :
    Calls Tryz.prog 20 #[.slice A n c] w (GivesB w (sepR zs)) := by
  have H0 := hide (sroots_any A n c B zs w h)
  obtain ⟨b, hb⟩ : ∃ b, isP zs = b := ⟨_, rfl⟩
  have H1 := hide (fun w' (hb' : Below w.heap.size w w') => sisperm_any A n c B zs b hb w' (h.below hb').reads h.le h.cap)
  have hle := rtsR_len zs
  have HS : Hid (sepR zs = (b && shortAll (rtsR zs))) := hide (by unfold sepR; rw [hb])
  rw [unhide HS]
  have HL := hide (fun z hz => isP_le (rtsR_all (p := zs) (z := z) hz))
  obtain ⟨R, hR⟩ : ∃ R, rtsR zs = R := ⟨_, rfl⟩
  rw [hR] at H0 hle HL ⊢
  clear h hb hR
  go_enter Tryz.func20, Tryz.ntmps20
  go_wp2_with fail
  refine (unhide H0).mono ?_
  rintro e w2 ⟨A2, c2, rfl, hS, hb2⟩
  have H2 := hide (unhide H1 w2 hb2)
  clear H0 H1
  go_wp2
  go_loopw [4] (fun i wr => ∃ k : Nat, k ≤ R.length ∧ i = .int .i64 k ∧ wr = w2 ∧ Hid (∀ z ∈ R.take k, z.length ≤ 2)) (fun i _ => R.length - (intOf i).toNat)
  case atStart => exact ⟨0, Nat.zero_le _, rfl, rfl, fun z hz => by simp at hz⟩
  case round =>
    obtain ⟨k, hk, rfl, rfl, hx⟩ := hrel
    by_cases hlt : k < R.length
    · obtain ⟨ad, A1, c1, z, rfl, hz, hcell, hI⟩ := hS.at_ hlt
      have hzl := unhide HL z (List.mem_of_getElem? hz)
      by_cases h2 : 2 < z.length
      · have hno := shortAll_no (List.mem_of_getElem? hz) h2
        have h2' : (2 : Int) < (z.length : Int) := by omega
        rw [hno, Bool.and_false]
        clear hz hI hS hx hno
        go_wp2
        go_ret
        exact ⟨rfl, hb2⟩
      · have h2' : ¬ (2 : Int) < (z.length : Int) := by omega
        have hnext : Hid (∀ y ∈ R.take (k + 1), y.length ≤ 2) := hide (fun y hy => by
          rw [List.take_add_one, hz] at hy
          rcases List.mem_append.1 hy with h | h
          · exact unhide hx y h
          · simp at h; subst h; omega)
        clear hz hI hx
        go_wp2
        go_roundw
        case rel => exact ⟨k + 1, by omega, by go_num, trivial, hnext⟩
        case measure => simp [intOf]; omega
    · obtain rfl : R.length = k := by omega
      have hyes := shortAll_yes (l := R) (fun z hz => unhide hx z (by rw [List.take_length]; exact hz))
      have HY := hide hyes
      clear hx hyes hS
      go_wp2_with fail
      refine (unhide H2).mono ?_
      rintro e w3 ⟨rfl, hd⟩
      have hb3 := below_after hb2 (hd.below _)
      clear H2 hd
      go_wp2
      go_ret
      exact ⟨by rw [unhide HY, Bool.and_true]; rfl, hb3⟩

set_option maxHeartbeats 800000 in
theorem isep_any (A : Option Addr) (n c B : Nat) (zs : List Int) (w : World) (h : Arg w B A n c zs) :
    Calls Tryz.prog 19 #[.slice A n c] w (GivesB w (sepR zs)) := by
  obtain ⟨b, hb⟩ : ∃ b, isP zs = b := ⟨_, rfl⟩
  have H1 := hide (iisperm_any A n c B zs b hb w h.reads h.under h.le h.small)
  have H0 := hide (fun w' (hb' : Below w.heap.size w w') => iroots_any A n c B zs w' (h.below hb'))
  have hle := rtsR_len zs
  have HS : Hid (sepR zs = (b && shortAll (rtsR zs))) := hide (by unfold sepR; rw [hb])
  rw [unhide HS]
  have HL := hide (fun z hz => isP_le (rtsR_all (p := zs) (z := z) hz))
  obtain ⟨R, hR⟩ : ∃ R, rtsR zs = R := ⟨_, rfl⟩
  rw [hR] at H0 hle HL ⊢
  clear h hb hR
  cases b with
  | false =>
    clear H0
    go_enter Tryz.func19, Tryz.ntmps19
    go_wp2_with fail
    refine (unhide H1).mono ?_
    rintro e w1 ⟨rfl, hb1⟩
    clear H1
    go_wp2
    go_ret
    exact ⟨rfl, hb1⟩
  | true =>
    rw [Bool.true_and]
    go_enter Tryz.func19, Tryz.ntmps19
    go_wp2_with fail
    refine (unhide H1).mono ?_
    rintro e w1 ⟨rfl, hb1⟩
    have H2 := hide (unhide H0 w1 hb1)
    clear H0 H1
    go_wp2_with fail
    refine (unhide H2).mono ?_
    rintro e w2 ⟨A2, c2, rfl, hS, hb2'⟩
    have hb2 := below_after hb1 hb2'
    clear H2 hb2'
    go_wp2
    go_loopw [4, 11] (fun _ i wr => ∃ k : Nat, k ≤ R.length ∧ i = .int .i64 k ∧ wr = w2 ∧ Hid (∀ z ∈ R.take k, z.length ≤ 2)) (fun _ i _ => R.length - (intOf i).toNat)
    case atStart => exact ⟨0, Nat.zero_le _, rfl, rfl, fun z hz => by simp at hz⟩
    case round =>
      obtain ⟨k, hk, rfl, rfl, hx⟩ := hrel
      by_cases hlt : k < R.length
      · obtain ⟨ad, A1, c1, z, rfl, hz, hcell, hI⟩ := hS.at_ hlt
        have hzl := unhide HL z (List.mem_of_getElem? hz)
        by_cases h2 : 2 < z.length
        · have hno := shortAll_no (List.mem_of_getElem? hz) h2
          have h2' : (2 : Int) < (z.length : Int) := by omega
          rw [hno]
          clear hz hI hS hx hno
          go_wp2
          go_ret
          exact ⟨rfl, hb2⟩
        · have h2' : ¬ (2 : Int) < (z.length : Int) := by omega
          have hnext : Hid (∀ y ∈ R.take (k + 1), y.length ≤ 2) := hide (fun y hy => by
            rw [List.take_add_one, hz] at hy
            rcases List.mem_append.1 hy with h | h
            · exact unhide hx y h
            · simp at h; subst h; omega)
          clear hz hI hx
          go_wp2
          go_roundw
          case rel => exact ⟨k + 1, by omega, by go_num, trivial, hnext⟩
          case measure => simp [intOf]; omega
      · obtain rfl : R.length = k := by omega
        have hyes := shortAll_yes (l := R) (fun z hz => unhide hx z (by rw [List.take_length]; exact hz))
        have HY := hide hyes
        clear hx hyes hS
        go_wp2
        go_ret
        exact ⟨by rw [unhide HY]; rfl, hb2⟩
end Go.Proofs.YtinnlhfdgbeibaaGreat
