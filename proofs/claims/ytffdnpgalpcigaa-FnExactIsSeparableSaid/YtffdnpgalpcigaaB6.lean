/-
  Words and contracts that the laws lean on, bundled: TreeD, Depth, PermT, FmtS, Text, Strs, SJoin, TreeX, IJoin.
-/
import Derived.Test.YtffdnpgalpcigaaB5
import Derived.Test.YtffdnpgalpcigaaB1
import Derived.Lib.ItoaNum
import Derived.Test.YtffdnpgalpcigaaProg
import Derived.Test.YtffdnpgalpcigaaB2
import Derived.Lib.ItoaLen
import Derived.Laws.IdiomStrings
import Derived.WalkSpells
import Derived.WalkLawsBesides
import Derived.Test.YtffdnpgalpcigaaB3
import Derived.Laws.BytesString
import Derived.WalkKit
import Derived.Deep.QuietTactic
import Derived.BigQuiet
import Derived.Lib.AppendStr
import Derived.Lib.UnsafeStr
import Derived.Lib.BufferRead
import Derived.Lib.Join
import Derived.Test.YtffdnpgalpcigaaShelfJ

/-
  spec.TreeDepth, by its contract.
-/

namespace Go.Proofs.Ytffdnpgalpcigaa
set_option maxRecDepth 100000
open Go.RowKit

/-- The depth of a tree, of the parts' depths; m is enough when it is not less than the length less one. -/
def maxL : List Int → Int
  | [] => 0
  | z :: r => max z (maxL r)
def depF : Nat → List Int → Int
  | 0, p => if splitOK p then 0 else -1
  | m + 1, p => if splitOK p then (if p.length = 1 then 0 else (pcsP p).foldl (fun b z => max b (1 + depF m z)) 0) else -1
def foldD (m : Nat) (l : List (List Int)) : Int := l.foldl (fun b z => max b (1 + depF m z)) 0
theorem foldD_snoc {m : Nat} {l : List (List Int)} {z : List Int} : foldD m (l ++ [z]) = max (foldD m l) (1 + depF m z) := by simp [foldD]
theorem foldD_ge (m : Nat) (l : List (List Int)) (b : Int) : b ≤ l.foldl (fun b z => max b (1 + depF m z)) b := by
  induction l generalizing b with
  | nil => simp
  | cons z r ih => rw [List.foldl_cons]; have := ih (max b (1 + depF m z)); omega
theorem fold_le {m : Nat} {l : List (List Int)} {c : Int} (h : ∀ z ∈ l, 1 + depF m z ≤ c) : ∀ b, b ≤ c → l.foldl (fun b z => max b (1 + depF m z)) b ≤ c := by
  induction l with
  | nil => intro b hb; simpa using hb
  | cons z r ih =>
    intro b hb
    rw [List.foldl_cons]
    exact ih (fun y hy => h y (List.mem_cons_of_mem _ hy)) _ (by have := h z (by simp); omega)
theorem dep_rng : ∀ (m : Nat) (p : List Int), -1 ≤ depF m p ∧ depF m p ≤ m
  | 0, p => by rw [depF]; split <;> omega
  | m + 1, p => by
    rw [depF]
    split
    · split
      · omega
      · have h1 := foldD_ge m (pcsP p) 0
        have h2 := fold_le (m := m) (l := pcsP p) (c := (m : Int) + 1) (fun z _ => by have := (dep_rng m z).2; omega) 0 (by omega)
        omega
    · omega
theorem foldD_rng (m : Nat) (l : List (List Int)) : 0 ≤ foldD m l ∧ foldD m l ≤ (m : Int) + 1 :=
  ⟨foldD_ge m l 0, fold_le (fun z _ => by have := (dep_rng m z).2; omega) 0 (by omega)⟩
theorem depF_no {m : Nat} {p : List Int} (h : splitOK p = false) : depF m p = -1 := by cases m <;> simp [depF, h]
theorem depF_one {m : Nat} {p : List Int} (h : splitOK p = true) (h1 : p.length = 1) : depF m p = 0 := by cases m <;> simp [depF, h, h1]
theorem depF_many {m : Nat} {p : List Int} (h : splitOK p = true) (h1 : p.length ≠ 1) : depF (m + 1) p = foldD m (pcsP p) := by simp [depF, h, h1, foldD]

set_option maxHeartbeats 1600000 in
theorem sdepth_low (A : Option Addr) (n c B : Nat) (zs : List Int) (w : World) (h : Arg w B A n c zs) (hn : n = 1 ∨ splitOK zs = false) (d : Int) (hd : d = if splitOK zs then 0 else -1) :
    Calls Try.prog 23 #[.slice A n c] w (fun e w' => e = .returned (.int .i64 d) ∧ Below w.heap.size w w') := by
  have hl := h.len
  have H0 := hide (ssplit_any A n c B zs w h)
  obtain ⟨b, hb⟩ : ∃ b, splitOK zs = b := ⟨_, rfl⟩
  rw [hb] at H0 hd
  cases b with
  | false =>
    subst hd
    rw [rootR_no hb, pcsR_no hb] at H0
    clear hb h hl hn
    go_enter Try.func23, Try.ntmps23
    go_wp2_with fail
    refine (unhide H0).mono ?_
    rintro e w2 ⟨A3, c3, A4, c4, rfl, hIn, hb2⟩
    clear H0
    go_wp2
    go_ret
    exact ⟨rfl, below_after hb2 ((Below.refl _ w2).alloc (Nat.le_refl _) _)⟩
  | true =>
    subst hd
    obtain rfl : n = 1 := by simpa [hb] using hn
    have hpl : (pcsR zs).length = 1 := by rw [pcsR_yes hb, pcsP, if_pos hl]; rfl
    have HPL := hide hpl
    clear hb h hl hn hpl
    go_enter Try.func23, Try.ntmps23
    go_wp2_with fail
    refine (unhide H0).mono ?_
    rintro e w2 ⟨A3, c3, A4, c4, rfl, hIn, hb2⟩
    rw [unhide HPL]
    have hb3 := below_after hb2 ((Below.refl _ w2).alloc (Nat.le_refl _) (.cells #[.slice A3 (rootR zs).length c3, .slice A4 1 c4] 25))
    clear H0 hIn hb2
    have hW := Whole.new w2 25 #[.slice A3 (rootR zs).length c3, .slice A4 1 c4]
    have q1 := hW.cell 1
    simp only [List.getElem?_toArray, List.getElem?_cons_zero, List.getElem?_cons_succ] at q1
    go_wp2
    go_loopw [5, 6] (fun b i wr => b = .int .i64 0 ∧ i = .int .i64 0 ∧ wr = w2.alloc (.cells #[.slice A3 (rootR zs).length c3, .slice A4 1 c4] 25)) (fun _ _ _ => 0)
    case atStart => exact ⟨rfl, rfl, rfl⟩
    case round =>
      obtain ⟨rfl, rfl, rfl⟩ := hrel
      go_wp2
      go_ret
      exact ⟨rfl, hb3⟩

set_option maxHeartbeats 1600000 in
theorem sdepth_any : ∀ (m : Nat) (A : Option Addr) (n c B : Nat) (zs : List Int) (w : World) (_ : Arg w B A n c zs) (_ : n ≤ m + 1) (_ : m ≤ 1000),
    Calls Try.prog 23 #[.slice A n c] w (fun e w' => e = .returned (.int .i64 (depF m zs)) ∧ Below w.heap.size w w') := by
  intro m
  induction m with
  | zero =>
    intro A n c B zs w h hn hm
    refine sdepth_low A n c B zs w h ?_ _ rfl
    by_cases h1 : n = 1
    · exact .inl h1
    · exact .inr (splitOK_no2 (by rw [h.len]; omega))
  | succ m ih =>
    intro A n c B zs w h hn hm
    by_cases hlow : n = 1 ∨ splitOK zs = false
    · refine sdepth_low A n c B zs w h hlow _ ?_
      rcases hlow with h1 | h1
      · cases hs : splitOK zs with
        | false => rw [depF_no hs]; rfl
        | true => rw [depF_one hs (by rw [h.len]; exact h1)]; rfl
      · rw [depF_no h1, h1]; rfl
    · obtain ⟨hn1, hs⟩ := not_or.1 hlow
      have hs : splitOK zs = true := by simpa using hs
      have hl := h.len
      have hp := (splitOK_all hs).1
      have H0 := hide (ssplit_any A n c B zs w h)
      rw [pcsR_yes hs, hs] at H0
      have HP := hide (fun z hz => pcsP_at hp z hz)
      have h8 := isP_le hp
      have hD := depF_many (m := m) hs (by omega)
      rw [hD]
      have HF := hide (foldD_rng m)
      have HG := hide (dep_rng m)
      have h2n : (1 : Int) < (n : Int) := by have := (splitOK_all hs).2; omega
      have hpc := pcsP_len hp
      obtain ⟨R, hR⟩ : ∃ R, pcsP zs = R := ⟨_, rfl⟩
      rw [hR] at H0 HP hpc ⊢
      have HL := hide hl
      clear hD hR hs hlow hp h hl h8
      go_enter Try.func23, Try.ntmps23
      go_wp2_with fail
      refine (unhide H0).mono ?_
      rintro e w2 ⟨A3, c3, A4, c4, rfl, hIn, hb2⟩
      have hb3 := below_after hb2 ((Below.refl _ w2).alloc (Nat.le_refl _) (.cells #[.slice A3 (rootR zs).length c3, .slice A4 R.length c4] 25))
      have hW := Whole.new w2 25 #[.slice A3 (rootR zs).length c3, .slice A4 R.length c4]
      have hS := hIn.pcs.intsS.below ((Below.refl _ w2).alloc (Nat.le_refl _) (.cells #[.slice A3 (rootR zs).length c3, .slice A4 R.length c4] 25))
      clear H0 hIn hb2
      go_wp2
      go_loopw [5, 6] (fun b i wr => ∃ k : Nat, k ≤ R.length ∧ i = .int .i64 k ∧ b = .int .i64 (foldD m (R.take k)) ∧ Below w.heap.size w wr ∧ Whole wr w2.heap.size 25 #[.slice A3 (rootR zs).length c3, .slice A4 R.length c4] ∧ IntsS wr w.heap.size (.slice A4 R.length c4) R) (fun _ i _ => R.length - (intOf i).toNat)
      case atStart => exact ⟨0, Nat.zero_le _, rfl, rfl, hb3, hW, hS⟩
      case round =>
        obtain ⟨k, hk, rfl, rfl, hbr, hWr, hSr⟩ := hrel
        clear hb3 hW hS
        have q1 := hWr.cell 1
        simp only [List.getElem?_toArray, List.getElem?_cons_zero, List.getElem?_cons_succ] at q1
        have hf := unhide HF (R.take k)
        by_cases hlt : k < R.length
        · obtain ⟨ad, A1, c1, z, rfl, hz, hcell, hIz⟩ := hSr.at_ hlt
          have hzp := unhide HP z (List.mem_of_getElem? hz)
          have hz1 : z.length ≤ m + 1 := by have := hzp.2.2.2 (by rw [unhide HL]; omega); rw [unhide HL] at this; omega
          have HI := hide (ih A1 z.length c1 _ z wr (hIz.argP hzp.1) hz1 (by omega))
          have HT := hide (take_snoc_r hz)
          have hd := unhide HG z
          clear hz hIz hzp hz1
          obtain ⟨D, hD⟩ : ∃ D, depF m z = D := ⟨_, rfl⟩
          have HD := hide hD
          rw [hD] at HI hd
          obtain ⟨F, hF⟩ : ∃ F, foldD m (R.take k) = F := ⟨_, rfl⟩
          have HFF := hide hF
          rw [hF] at hf ⊢
          clear hD hF
          go_wp2_with fail
          refine (unhide HI).mono ?_
          rintro e w4 ⟨rfl, hb4⟩
          go_wp2_with fail
          refine (max_any _ _ _).mono ?_
          rintro e w5 ⟨rfl, rfl⟩
          have hb5 := below_after hbr hb4
          have hW5 := hWr.below hb4 hWr.lt
          have hS5 := hSr.below hb4
          have hE : Hid (max F (1 + D) = foldD m (R.take (k + 1))) := hide (by rw [unhide HT, foldD_snoc, unhide HFF, unhide HD])
          clear HI hb4 hbr hWr hSr hcell q1
          go_wp2
          go_roundw
          case rel => exact ⟨k + 1, by omega, by go_num, by rw [unhide hE], hb5, hW5, hS5⟩
          case measure => simp [intOf]; omega
        · obtain rfl : R.length = k := by omega
          rw [List.take_length]
          clear hSr
          go_wp2
          go_ret
          exact ⟨rfl, hbr⟩
end Go.Proofs.Ytffdnpgalpcigaa


/-
  (*impl.node).depth, impl.TreeDepth, by their contracts.
-/

namespace Go.Proofs.Ytffdnpgalpcigaa
set_option maxRecDepth 100000
open Go.RowKit

theorem Grown.leaf {m : Nat} {w : World} {lo hi : Nat} {v : Value} {zs : List Int} (h : Grown m w lo hi v zs) (h1 : zs.length = 1) : NodeAt w lo hi v (rootP zs) (.slice none 0 0) := by
  cases m with
  | zero => exact h.2
  | succ m =>
    rcases h with ⟨_, h⟩ | ⟨h0, _⟩
    · exact h
    · exact absurd h1 h0
theorem Grown.tree {m : Nat} {w : World} {lo hi : Nat} {v : Value} {zs : List Int} (h : Grown m w lo hi v zs) (h1 : zs.length ≠ 1) : ∃ k A c vs, m = k + 1 ∧ NodeAt w lo hi v (rootP zs) (.slice A (pcsP zs).length c) ∧ w.ownsRow lo 49 1 (.slice A (pcsP zs).length c) (pcsP zs).length vs ∧ Until hi (.slice A (pcsP zs).length c) ∧
      ∀ (i : Nat) (x : Value) (z : List Int), vs[i]? = some x → (pcsP zs)[i]? = some z → Grown k w lo hi x z := by
  cases m with
  | zero => exact absurd h.1 h1
  | succ m =>
    rcases h with ⟨h0, _⟩ | ⟨_, A, c, vs, h2, h3, h4, h5⟩
    · exact absurd h0 h1
    · exact ⟨m, A, c, vs, rfl, h2, h3, h4, h5⟩
theorem NodeAt.cells {w : World} {lo hi : Nat} {v cv : Value} {root : List Int} (h : NodeAt w lo hi v root cv) : ∃ g A c, v = .pointer (some ⟨g, 0, none⟩) ∧ g < hi ∧ w.cell? ⟨g, 0, none⟩ = some (.slice A root.length c) ∧ w.cell? ⟨g, 1, none⟩ = some cv ∧ Ints w lo (.slice A root.length c) root := by
  obtain ⟨g, A, c, h1, h2, h3, h4, h5, h6⟩ := h
  exact ⟨g, A, c, h1, h3, h4.cell 0, h4.cell 1, h5⟩

set_option maxHeartbeats 1600000 in
theorem depth_any : ∀ (m : Nat) (v : Value) (lo hi : Nat) (zs : List Int) (w : World) (_ : Grown m w lo hi v zs) (_ : hi ≤ w.heap.size) (_ : splitOK zs = true) (_ : m ≤ 1000),
    Calls Try.prog 52 #[v] w (fun e w' => e = .returned (.int .i64 (depF m zs)) ∧ Below w.heap.size w w') := by
  intro m
  induction m with
  | zero =>
    intro v lo hi zs w h hh hs hm
    obtain ⟨g, A, c, rfl, _, q0, q1, _⟩ := (h.leaf h.1).cells
    rw [depF_one hs h.1]
    clear h hs
    go_enter Try.func52, Try.ntmps52
    go_wp2
    go_loopw [3, 5, 11] (fun b _ i wr => b = .int .i64 0 ∧ i = .int .i64 0 ∧ wr = w) (fun _ _ _ _ => 0)
    case atStart => exact ⟨rfl, rfl, rfl⟩
    case round =>
      obtain ⟨rfl, rfl, rfl⟩ := hrel
      go_wp2
      go_ret
      exact ⟨rfl, Below.refl _ _⟩
  | succ m ih =>
    intro v lo hi zs w h hh hs hm
    by_cases h1 : zs.length = 1
    · obtain ⟨g, A, c, rfl, _, q0, q1, _⟩ := (h.leaf h1).cells
      rw [depF_one hs h1]
      clear h hs
      go_enter Try.func52, Try.ntmps52
      go_wp2
      go_loopw [3, 5, 11] (fun b _ i wr => b = .int .i64 0 ∧ i = .int .i64 0 ∧ wr = w) (fun _ _ _ _ => 0)
      case atStart => exact ⟨rfl, rfl, rfl⟩
      case round =>
        obtain ⟨rfl, rfl, rfl⟩ := hrel
        go_wp2
        go_ret
        exact ⟨rfl, Below.refl _ _⟩
    · obtain ⟨m', A, c, vs, hm', hN, hown, hun, hkids⟩ := h.tree h1
      obtain rfl : m = m' := by omega
      obtain ⟨g, A0, c0, rfl, _, q0, q1, _⟩ := hN.cells
      have hp := (splitOK_all hs).1
      have hD := depF_many (m := m) hs h1
      rw [hD]
      have HF := hide (foldD_rng m)
      have HG := hide (dep_rng m)
      have HP := hide (fun z hz => pcsP_at hp z hz)
      have hpc := pcsP_len hp
      obtain ⟨R, hR⟩ : ∃ R, pcsP zs = R := ⟨_, rfl⟩
      rw [hR] at hown hun hkids q1 HP hpc ⊢
      have HK := hide hkids
      have hvl : vs.length = R.length := by simpa using hown.1
      have hrd := Reads.of_own_at hown
      clear hN h hs hD hp hR hkids hun hown
      go_enter Try.func52, Try.ntmps52
      go_wp2
      go_loopw [3, 5, 11] (fun b _ i wr => ∃ k : Nat, k ≤ R.length ∧ i = .int .i64 k ∧ b = .int .i64 (foldD m (R.take k)) ∧ Below w.heap.size w wr) (fun _ _ i _ => R.length - (intOf i).toNat)
      case atStart => exact ⟨0, Nat.zero_le _, rfl, rfl, Below.refl _ _⟩
      case round =>
        obtain ⟨k, hk, rfl, rfl, hbr⟩ := hrel
        have hf := unhide HF (R.take k)
        by_cases hlt : k < R.length
        · obtain ⟨ad, x, rfl, _, hx, hcell⟩ := (hrd.below hbr).at_ hlt
          obtain ⟨z, hz⟩ : ∃ z, R[k]? = some z := ⟨_, List.getElem?_eq_getElem hlt⟩
          have hGz := unhide HK k x z hx hz
          have hzp := unhide HP z (List.mem_of_getElem? hz)
          obtain ⟨gx, rfl⟩ := hGz.ptr
          have HI := hide (ih _ lo hi z wr (hGz.below hbr hh) (Nat.le_trans hh hbr.size) (splitOK_yes hzp.1 hzp.2.1) (by omega))
          have HT := hide (take_snoc_r hz)
          have hd := unhide HG z
          clear hz hGz hzp hx
          obtain ⟨D, hD⟩ : ∃ D, depF m z = D := ⟨_, rfl⟩
          have HD := hide hD
          rw [hD] at HI hd
          obtain ⟨F, hF⟩ : ∃ F, foldD m (R.take k) = F := ⟨_, rfl⟩
          have HFF := hide hF
          rw [hF] at hf ⊢
          clear hD hF
          have hmx := max_if F (1 + D)
          go_wp2_with fail
          refine (unhide HI).mono ?_
          rintro e w4 ⟨rfl, hb4⟩
          have hb5 := below_after hbr hb4
          have hE : Hid (max F (1 + D) = foldD m (R.take (k + 1))) := hide (by rw [unhide HT, foldD_snoc, unhide HFF, unhide HD])
          clear HI hb4 hbr hcell
          go_wp2
          go_roundw
          case rel => exact ⟨k + 1, by omega, by go_num, by rw [unhide hE], hb5⟩
          case measure => simp [intOf]; omega
        · obtain rfl : R.length = k := by omega
          rw [List.take_length]
          go_wp2
          go_ret
          exact ⟨rfl, hbr⟩

set_option maxHeartbeats 1600000 in
theorem idepth_any (m : Nat) (A : Option Addr) (n c B : Nat) (zs : List Int) (w : World) (h : Arg w B A n c zs) (hn : n ≤ m + 1) (hm : m ≤ 1000) :
    Calls Try.prog 24 #[.slice A n c] w (fun e w' => e = .returned (.int .i64 (depF m zs)) ∧ Below w.heap.size w w') := by
  obtain ⟨b, hb⟩ : ∃ b, splitOK zs = b := ⟨_, rfl⟩
  cases b with
  | false =>
    have H0 := hide (grow_no A n c B zs w h hb)
    rw [depF_no hb]
    clear h hb
    go_enter Try.func24, Try.ntmps24
    go_wp2_with fail
    refine (unhide H0).mono ?_
    rintro e w2 ⟨rfl, hb2⟩
    clear H0
    go_wp2
    go_ret
    exact ⟨rfl, hb2⟩
  | true =>
    have H0 := hide (grow_any m A n c B zs w h hb hn hm)
    have HB := hide hb
    clear h hb
    go_enter Try.func24, Try.ntmps24
    go_wp2_with fail
    refine (unhide H0).mono ?_
    rintro e w2 ⟨v, rfl, hG, hb2⟩
    have H1 := hide (depth_any m v _ _ zs w2 hG (Nat.le_refl _) (unhide HB) hm)
    clear H0 hG
    go_wp2_with fail
    refine (unhide H1).mono ?_
    rintro e w3 ⟨rfl, hb3⟩
    clear H1
    go_wp2
    go_ret
    exact ⟨rfl, below_after hb2 hb3⟩
end Go.Proofs.Ytffdnpgalpcigaa


/-
  PLAIN: a permutation's text, and back. Nothing here speaks of the program.
-/

namespace Go.Proofs.Ytffdnpgalpcigaa
set_option maxRecDepth 100000

def dgt (z : Int) : UInt8 := UInt8.ofNat (48 + z.toNat)
def textL (l : List Int) : List UInt8 := l.map dgt
theorem textL_length (l : List Int) : (textL l).length = l.length := by simp [textL]
theorem textL_nil : textL [] = [] := rfl
theorem textL_step {l : List Int} {k : Nat} {z : Int} (h : l[k]? = some z) : textL (l.take (k + 1)) = textL (l.take k) ++ [dgt z] := by unfold textL; rw [take_snoc_i h, List.map_append, List.map_singleton]
theorem itoa_one {z : Int} (h0 : 1 ≤ z) (h1 : z ≤ 8) : Lib.itoa z = [dgt z] := by
  rw [Lib.itoa, if_neg (by omega)]
  exact Lib.decDigits_one (by omega)
/-- The text's numbers as integers. -/
def textI (l : List Int) : List Int := l.map (48 + ·)
theorem textI_length (l : List Int) : (textI l).length = l.length := by simp [textI]
theorem textI_at {l : List Int} {k : Nat} {z : Int} (h : l[k]? = some z) : (textI l)[k]? = some (48 + z) := by unfold textI; rw [List.getElem?_map, h]; rfl
theorem push_list : ∀ (ns : List Int) (s : ByteArray), (ns.foldl (fun r n => r.push (UInt8.ofNat n.toNat)) s) = ⟨s.data ++ (ns.map fun n => UInt8.ofNat n.toNat).toArray⟩
  | [], s => by simp
  | n :: ns, s => by
    rw [List.foldl_cons, push_list ns]
    simp [ByteArray.push]
theorem textI_bytes {l : List Int} (h : ∀ z ∈ l, 0 ≤ z) : (textI l).map (fun n => UInt8.ofNat n.toNat) = textL l := by
  unfold textI textL
  rw [List.map_map]
  refine List.map_congr_left fun z hz => ?_
  have := h z hz
  simp only [Function.comp, dgt]
  congr 1
  omega

def ptext (l : List Int) : ByteArray := if isP l then (if l = [] then ⟨#[45]⟩ else ⟨(textL l).toArray⟩) else ByteArray.empty
theorem ptext_no {l : List Int} (h : isP l = false) : ptext l = ByteArray.empty := by unfold ptext; rw [if_neg (by simp [h])]
theorem ptext_nil {l : List Int} (h : isP l = true) (h0 : l.length = 0) : ptext l = ⟨#[45]⟩ := by unfold ptext; rw [if_pos h, if_pos (List.eq_nil_of_length_eq_zero h0)]
theorem ptext_yes {l : List Int} (h : isP l = true) (h0 : l.length ≠ 0) : ptext l = ⟨(textL l).toArray⟩ := by
  unfold ptext
  rw [if_pos h, if_neg (fun e => h0 (by rw [e]; rfl))]

/-- A text's numbers. -/
def nums (s : ByteArray) : List Int := s.data.toList.map fun b => (b.toNat : Int) - 48
theorem nums_length (s : ByteArray) : (nums s).length = s.size := by
  unfold nums
  rw [List.length_map, Array.length_toList]; rfl
theorem nums_at {s : ByteArray} {k : Nat} (h : k < s.size) : (nums s)[k]? = some ((s[k].toNat : Int) - 48) := by
  have hl : s.data.toList.length = s.size := by rw [Array.length_toList]; rfl
  unfold nums
  rw [List.getElem?_map, List.getElem?_eq_getElem (by omega)]
  rfl
theorem nums_small {s : ByteArray} : ∀ z ∈ nums s, -48 ≤ z ∧ z ≤ 207 := by
  intro z hz
  unfold nums at hz
  obtain ⟨b, _, rfl⟩ := List.mem_map.1 hz
  have := b.toNat_lt
  omega
def ppOK (s : ByteArray) : Bool := decide (s = ⟨#[45]⟩) || (decide (0 < s.size) && isP (nums s))
def ppR (s : ByteArray) : List Int := if s = ⟨#[45]⟩ then [] else if ppOK s then nums s else []
theorem ppOK_dash : ppOK ⟨#[45]⟩ = true := by simp [ppOK]
theorem ppR_dash : ppR ⟨#[45]⟩ = [] := by simp [ppR]
theorem ppOK_else {s : ByteArray} (h : s ≠ ⟨#[45]⟩) (h0 : 0 < s.size) : ppOK s = isP (nums s) := by simp [ppOK, h, h0]
theorem ppOK_none {s : ByteArray} (h : s ≠ ⟨#[45]⟩) (h0 : s.size = 0) : ppOK s = false := by simp [ppOK, h, h0]
theorem ppR_yes {s : ByteArray} (h : s ≠ ⟨#[45]⟩) (hk : ppOK s = true) : ppR s = nums s := by unfold ppR; rw [if_neg h, if_pos hk]
theorem ppR_no {s : ByteArray} (h : s ≠ ⟨#[45]⟩) (hk : ppOK s = false) : ppR s = [] := by unfold ppR; rw [if_neg h, if_neg (by simp [hk])]
theorem ppR_le (s : ByteArray) : (ppR s).length ≤ 8 := by
  by_cases h : s = ⟨#[45]⟩
  · subst h; rw [ppR_dash]; simp
  · cases hk : ppOK s with
    | false => rw [ppR_no h hk]; simp
    | true =>
      rw [ppR_yes h hk]
      by_cases h0 : 0 < s.size
      · rw [ppOK_else h h0] at hk
        exact isP_le hk
      · rw [nums_length]; omega
end Go.Proofs.Ytffdnpgalpcigaa


/-
  spec.FormatInt, by its contract: the decimal numeral.
-/

namespace Go.Proofs.Ytffdnpgalpcigaa
set_option maxRecDepth 100000
open Go.RowKit

/-- What is still to be written of m, ahead of l. -/
def decR (m : Nat) (l : List UInt8) : List UInt8 := if m = 0 then l else Lib.decDigits m ++ l
theorem decR_step {m : Nat} (h : m ≠ 0) (l : List UInt8) : decR m l = decR (m / 10) (UInt8.ofNat (48 + m % 10) :: l) := by
  unfold decR
  rw [if_neg h]
  by_cases h10 : m < 10
  · rw [if_pos (by omega), Lib.decDigits_one h10, Nat.mod_eq_of_lt h10]; rfl
  · rw [if_neg (by omega)]
    rw [Lib.decDigits, dif_neg h10, List.append_assoc]; rfl

theorem cv_one {P : Program} {src dst e : TypeId} (hs : P.underlying src = some (.slice e)) (he : P.underlying e = some (.int .u8)) (hd : P.underlying dst = some .string) (W : World) (x : Int) :
    (convert src dst (.slice (some ⟨W.heap.size, 0, none⟩) 1 1)).run P (W.alloc (.cells #[.int .u8 x] e)) = .ok (.string ⟨#[UInt8.ofNat x.toNat]⟩) (W.alloc (.cells #[.int .u8 x] e)) := by
  rw [run_convert_bytes_string _ src dst e _ 1 1 hs he hd]
  have h := run_bytesToString (P := P) (W.alloc (.cells #[.int .u8 x] e)) ⟨W.heap.size, 0, none⟩ 1 1 [x] (by rw [show (1 : Nat) = ([Value.int .u8 x] : List Value).length from rfl]; exact run_loadCells_list (P := P) _ _ [Value.int .u8 x] (fun j v hj => by
    match j, hj with
    | 0, hj => simp at hj; subst hj; simp [Addr.add]))
  exact h

theorem one_app {b b' : UInt8} (l : List UInt8) (h : b = b') : Value.string (⟨#[b]⟩ ++ ⟨l.toArray⟩) = .string ⟨(b' :: l).toArray⟩ := by
  subst h
  congr 1
theorem neg_rem {m : Int} (h : m ≤ 0) : m.tmod 10 = -((m.natAbs % 10 : Nat) : Int) := by
  obtain ⟨u, rfl⟩ : ∃ u : Nat, m = -(u : Int) := ⟨m.natAbs, by omega⟩
  rw [Int.neg_tmod, Int.natAbs_neg, Int.natAbs_natCast]; rfl
theorem neg_quo {m : Int} (h : m ≤ 0) : m.tdiv 10 = -((m.natAbs / 10 : Nat) : Int) := by
  obtain ⟨u, rfl⟩ : ∃ u : Nat, m = -(u : Int) := ⟨m.natAbs, by omega⟩
  rw [Int.neg_tdiv, Int.natAbs_neg, Int.natAbs_natCast]; rfl
theorem left_short {m n : Int} {l : List UInt8} (h0 : -9223372036854775808 ≤ n) (h1 : n ≤ 9223372036854775807) (h : decR m.natAbs l = Lib.decDigits n.natAbs) : l.length ≤ 21 := by
  have h2 := Lib.itoa_length_le n h0 h1
  have h3 : (Lib.decDigits n.natAbs).length ≤ (Lib.itoa n).length := by
    unfold Lib.itoa
    by_cases hn : n < 0
    · rw [if_pos hn]; simp
    · rw [if_neg hn, show n.natAbs = n.toNat from by omega]; exact Nat.le_refl _
  have h4 : l.length ≤ (decR m.natAbs l).length := by
    unfold decR
    split <;> simp
  rw [h] at h4
  omega

set_option maxRecDepth 100000 in
set_option maxHeartbeats 1600000 in
theorem sfmt_any (n : Int) (h0 : -9223372036854775808 ≤ n) (h1 : n ≤ 9223372036854775807) (w : World) :
    Calls Try.prog 68 #[.int .i64 n] w fun e w' => e = .returned (.string ⟨(Lib.itoa n).toArray⟩) ∧ Below w.heap.size w w' := by
  by_cases hz : n = 0
  · subst hz
    go_enter Try.func68, Try.ntmps68
    go_wp2
    go_ret
    exact ⟨ret_str (by rw [show Lib.itoa 0 = [48] from by rw [Lib.itoa, if_neg (by omega)]; exact Lib.decDigits_one (by omega)]), Below.refl _ _⟩
  · by_cases hneg : n < 0
    · go_enter Try.func68, Try.ntmps68
      go_wp2
      go_loopw [0, 4] (fun nv o wr => ∃ (m : Int) (l : List UInt8), nv = .int .i64 m ∧ o = .string ⟨l.toArray⟩ ∧ m ≤ 0 ∧ -9223372036854775808 ≤ m ∧ Below w.heap.size w wr ∧ Hid (decR m.natAbs l = Lib.decDigits n.natAbs)) (fun nv _ _ => (intOf nv).natAbs)
      case atStart => exact ⟨n, [], rfl, rfl, by omega, h0, Below.refl _ _, by unfold Hid decR; rw [if_neg (by omega), List.append_nil]⟩
      case round =>
        obtain ⟨m, l, rfl, rfl, hm0, hm1, hb, hd⟩ := hrel
        by_cases hmz : m = 0
        · subst hmz
          have hl := left_short h0 h1 (unhide hd)
          have HI := hide (show Lib.itoa n = 45 :: l by
            have h := unhide hd
            simp only [decR, Int.natAbs_zero, if_true] at h
            rw [Lib.itoa, if_pos hneg, ← h])
          clear hd h0 h1
          go_wp2
          go_ret
          exact ⟨by rw [unhide HI]; exact congrArg Ending.returned (one_app l rfl), hb⟩
        · have hR := neg_rem hm0
          have hA : -10 < m.tmod 10 := by omega
          have hB : m.tmod 10 ≤ 0 := by omega
          have hl := left_short h0 h1 (unhide hd)
          have HM := hide hR
          have HQ := hide (neg_quo hm0)
          have hq0 : m.tdiv 10 ≤ 0 := by rw [unhide HQ]; omega
          have hq1 : -9223372036854775808 ≤ m.tdiv 10 := by rw [unhide HQ]; omega
          have hst := hide (show decR (m.tdiv 10).natAbs (UInt8.ofNat (48 + m.natAbs % 10) :: l) = Lib.decDigits n.natAbs by
            rw [← unhide hd, decR_step (m := m.natAbs) (by omega) l, neg_quo hm0, Int.natAbs_neg, Int.natAbs_natCast])
          have hms := hide (show (m.tdiv 10).natAbs < m.natAbs by rw [neg_quo hm0]; omega)
          clear hR h0 h1
          have hcv := cv_one (P := Try.prog) Try.underlying68 Try.underlying5 Try.underlying9 wr
          go_wp2
          all_goals go_roundw
          case measure => exact unhide hms
          case measure => exact unhide hms
          case rel => exact ⟨_, _, rfl, one_app l (congrArg UInt8.ofNat (by have := unhide HM; omega)), hq0, hq1, hb.alloc hb.size _, hst⟩
          case rel => exact ⟨_, _, rfl, one_app l (congrArg UInt8.ofNat (by have := unhide HM; omega)), hq0, hq1, hb.alloc hb.size _, hst⟩
    · go_enter Try.func68, Try.ntmps68
      go_wp2
      go_loopw [0, 4] (fun nv o wr => ∃ (m : Int) (l : List UInt8), nv = .int .i64 m ∧ o = .string ⟨l.toArray⟩ ∧ 0 ≤ m ∧ m ≤ 9223372036854775807 ∧ Below w.heap.size w wr ∧ Hid (decR m.natAbs l = Lib.decDigits n.natAbs)) (fun nv _ _ => (intOf nv).natAbs)
      case atStart => exact ⟨n, [], rfl, rfl, by omega, h1, Below.refl _ _, by unfold Hid decR; rw [if_neg (by omega), List.append_nil]⟩
      case round =>
        obtain ⟨m, l, rfl, rfl, hm0, hm1, hb, hd⟩ := hrel
        by_cases hmz : m = 0
        · subst hmz
          have hl := left_short h0 h1 (unhide hd)
          have HI := hide (show Lib.itoa n = l by
            have h := unhide hd
            simp only [decR, Int.natAbs_zero, if_true] at h
            rw [Lib.itoa, if_neg (by omega), show n.toNat = n.natAbs from by omega, ← h])
          clear hd h0 h1
          go_wp2
          go_ret
          exact ⟨by rw [unhide HI]; rfl, hb⟩
        · have hA : 0 ≤ m % 10 := by omega
          have hB : m % 10 < 10 := by omega
          have hl := left_short h0 h1 (unhide hd)
          have HM := hide (show m % 10 = ((m.natAbs % 10 : Nat) : Int) by omega)
          have hq0 : 0 ≤ m / 10 := by omega
          have hq1 : m / 10 ≤ 9223372036854775807 := by omega
          have hst := hide (show decR (m / 10).natAbs (UInt8.ofNat (48 + m.natAbs % 10) :: l) = Lib.decDigits n.natAbs by
            rw [← unhide hd, decR_step (m := m.natAbs) (by omega) l]; congr 1; omega)
          have hms := hide (show (m / 10).natAbs < m.natAbs by omega)
          clear h0 h1
          have hcv := cv_one (P := Try.prog) Try.underlying68 Try.underlying5 Try.underlying9 wr
          go_wp2
          go_roundw
          case measure => exact unhide hms
          case rel => exact ⟨_, _, rfl, one_app l (congrArg UInt8.ofNat (by have := unhide HM; omega)), hq0, hq1, hb.alloc hb.size _, hst⟩

end Go.Proofs.Ytffdnpgalpcigaa


/-
  spec.PermText and impl.PermText, by their contracts.
-/

namespace Go.Proofs.Ytffdnpgalpcigaa
set_option maxRecDepth 100000
open Go.RowKit

theorem cat_list (a b : List UInt8) : (⟨a.toArray⟩ ++ ⟨b.toArray⟩ : ByteArray) = ⟨(a ++ b).toArray⟩ := by
  refine ByteArray.ext ?_
  simp
theorem fmt1_any (z : Int) (h0 : 1 ≤ z) (h1 : z ≤ 8) (w : World) :
    Calls Try.prog 68 #[.int .i64 z] w fun e w' => e = .returned (.string ⟨[dgt z].toArray⟩) ∧ Below w.heap.size w w' := by
  have h := sfmt_any z (by omega) (by omega) w
  rw [itoa_one h0 h1] at h
  exact h
theorem str_eq {a b : ByteArray} (h : a = b) : Value.string a = .string b := by rw [h]

set_option maxHeartbeats 800000 in
theorem stext_any (A : Option Addr) (n c B : Nat) (zs : List Int) (w : World) (h : Arg w B A n c zs) :
    Calls Try.prog 47 #[.slice A n c] w (GivesS w (ptext zs)) := by
  obtain ⟨bp, hp⟩ : ∃ b, isP zs = b := ⟨_, rfl⟩
  have H1 := hide (sisperm_any A n c B zs bp hp w h.reads h.le h.cap)
  have hl := h.len
  cases bp with
  | false =>
    rw [ptext_no hp]
    clear hp h hl
    go_enter Try.func47, Try.ntmps47
    go_wp2_with fail
    refine (unhide H1).mono ?_
    rintro e w1 ⟨rfl, hd⟩
    have hb := hd.below w.heap.size
    clear hd H1
    go_wp2
    go_ret
    exact ⟨rfl, hb⟩
  | true =>
    by_cases h0 : n = 0
    · subst h0
      rw [ptext_nil hp hl]
      clear hp h hl
      go_enter Try.func47, Try.ntmps47
      go_wp2_with fail
      refine (unhide H1).mono ?_
      rintro e w1 ⟨rfl, hd⟩
      have hb := hd.below w.heap.size
      clear hd H1
      go_wp2
      go_ret
      exact ⟨rfl, hb⟩
    · rw [ptext_yes hp (by omega)]
      have hr := h.reads
      have hB := h.under
      have hn8 : n ≤ 8 := by have := isP_le hp; omega
      have HP := hide (fun k z hz => isP_range hp (k := k) (z := z) hz)
      have HL := hide hl
      have h0' : ((n : Int) == 0) = false := by simp; omega
      clear hp h hl
      go_enter Try.func47, Try.ntmps47
      go_wp2_with fail
      refine (unhide H1).mono ?_
      rintro e w1 ⟨rfl, hd⟩
      have hb1 := hd.below w.heap.size
      clear hd H1
      go_wp2
      go_loopw [3, 4] (fun o i wr => ∃ k : Nat, k ≤ n ∧ i = .int .i64 k ∧ o = .string ⟨(textL (zs.take k)).toArray⟩ ∧ Below w.heap.size w wr) (fun _ i _ => n - (intOf i).toNat)
      case atStart => exact ⟨0, Nat.zero_le _, rfl, rfl, hb1⟩
      case round =>
        obtain ⟨k, hk, rfl, rfl, hb⟩ := hrel
        clear hb1
        have htl : (textL (zs.take k)).length ≤ 8 := by rw [textL_length]; have := List.length_take_le k zs; omega
        by_cases hlt : k < n
        · obtain ⟨ad, u, rfl, had, hu, hc⟩ := ((hr.more hB).below hb).at_ hlt
          obtain ⟨z, hz, rfl⟩ := i64_at hu
          obtain ⟨hz1, hz2⟩ := unhide HP k z hz
          rw [unhide HL] at hz2
          have H2 := hide (fmt1_any z hz1 (by omega) wr)
          have hstep := hide (textL_step hz)
          clear hu hz
          go_wp2_with fail
          refine (unhide H2).mono ?_
          rintro e w2 ⟨rfl, hb2⟩
          have hb3 := below_after hb hb2
          clear H2 hb2 hb
          go_wp2
          go_roundw
          case rel => exact ⟨k + 1, by omega, by go_num, str_eq (by rw [unhide hstep, ← cat_list]), hb3⟩
          case measure => simp [intOf]; omega
        · obtain rfl : n = k := by omega
          have e : zs.take n = zs := List.take_of_length_le (by rw [unhide HL]; exact Nat.le_refl _)
          rw [e] at htl ⊢
          clear e
          go_wp2
          go_ret
          exact ⟨rfl, hb⟩

theorem byteInfo : (Try.prog.info? 5).map (fun i => (i.zero, i.size, i.bytes)) = some (some (.int .u8 0), 1, 1) := by kernel_rfl
def u8c (ns : List Int) : List Value := ns.map (Value.int .u8)
theorem cv_row {P : Program} {src dst e : TypeId} (hs : P.underlying src = some (.slice e)) (he : P.underlying e = some (.int .u8)) (hd : P.underlying dst = some .string) (w : World) (B g n c : Nat) (t : TypeId) (ns : List Int)
    (hown : w.ownsRow B t 1 (.slice (some ⟨g, 0, none⟩) n c) n (u8c ns)) :
    (convert src dst (.slice (some ⟨g, 0, none⟩) n c)).run P w = .ok (.string ⟨(ns.map fun n => UInt8.ofNat n.toNat).toArray⟩) w := by
  rw [run_convert_bytes_string _ src dst e _ n c hs he hd]
  have hn : n = (u8c ns).length := by have := hown.1; omega
  have h := run_bytesToString (P := P) w ⟨g, 0, none⟩ n c ns (by
    have := run_loadCells_list (P := P) (w := w) ⟨g, 0, none⟩ (u8c ns) (fun j v hj => hown.cells (g := g) rfl j v hj)
    rwa [← hn] at this)
  rw [push_list] at h
  simpa using h

set_option maxHeartbeats 800000 in
theorem itext_any (A : Option Addr) (n c B : Nat) (zs : List Int) (w : World) (h : Arg w B A n c zs) :
    Calls Try.prog 70 #[.slice A n c] w (GivesS w (ptext zs)) := by
  obtain ⟨bp, hp⟩ : ∃ b, isP zs = b := ⟨_, rfl⟩
  have H1 := hide (iisperm_any A n c B zs bp hp w h.reads h.under h.le h.small)
  have hl := h.len
  cases bp with
  | false =>
    rw [ptext_no hp]
    clear hp h hl
    go_enter Try.func70, Try.ntmps70
    go_wp2_with fail
    refine (unhide H1).mono ?_
    rintro e w1 ⟨rfl, hb⟩
    clear H1
    go_wp2
    go_ret
    exact ⟨rfl, hb⟩
  | true =>
    by_cases h0 : n = 0
    · subst h0
      rw [ptext_nil hp hl]
      clear hp h hl
      go_enter Try.func70, Try.ntmps70
      go_wp2_with fail
      refine (unhide H1).mono ?_
      rintro e w1 ⟨rfl, hb⟩
      clear H1
      go_wp2
      go_ret
      exact ⟨rfl, hb⟩
    · rw [ptext_yes hp (by omega)]
      obtain ⟨i0, hi, hz0, hz1, hz2⟩ := info_parts byteInfo
      have hr := h.reads
      have hB := h.under
      have hn8 : n ≤ 8 := by have := isP_le hp; omega
      have HP := hide (fun k z hz => isP_range hp (k := k) (z := z) hz)
      have HT := hide (textI_bytes (l := zs) (fun z hz => by have := (isP_true.1 hp).2.1 z hz; omega))
      have HL := hide hl
      have h0' : ((n : Int) == 0) = false := by simp; omega
      clear hp h hl
      go_enter Try.func70, Try.ntmps70
      go_wp2_with fail
      refine (unhide H1).mono ?_
      rintro e w0 ⟨rfl, hb0⟩
      have hs0 := hb0.size
      clear H1
      go_wp2_with (first
        | (at_make; refine wpList_make_full _ rfl (.tmp 13) (.tmp 13) 68 rfl w.heap.size 5 i0 (.int .u8 0) 1 Try.underlying68 hi hz0 hz1 _ _ _ _ n rfl rfl (by first | rfl | omega) (by first | rfl | omega) (by rw [hz2]; omega) (by unfold maxLen; omega) hs0 ?_; intro w1 hown hg))
      have hb1 := hb0.grown hg hs0 (by simp)
      clear hg hb0
      obtain ⟨g, hg⟩ : ∃ g, g = w0.heap.size := ⟨_, rfl⟩
      rw [← hg] at hown ⊢
      clear hg hs0
      go_loopw [4, 5, 17] (fun _ _ i wr => ∃ (k : Nat) (xs : List Value), k ≤ n ∧ i = .int .i64 k ∧ Below w.heap.size w wr ∧ wr.ownsRow w.heap.size 5 1 (.slice (some ⟨g, 0, none⟩) n n) n xs ∧ Hid (xs.take k = (u8c (textI zs)).take k)) (fun _ _ i _ => n - (intOf i).toNat)
      case atStart => exact ⟨0, _, Nat.zero_le _, rfl, hb1, hown, by exact rfl⟩
      case round =>
        obtain ⟨k, xs, hk, rfl, hb, hown', hx⟩ := hrel
        clear hown hb1
        have hlx : xs.length = n := by simpa using hown'.1
        by_cases hlt : k < n
        · obtain ⟨ad, u, rfl, had, hu, hc⟩ := ((hr.more hB).below hb).at_ hlt
          obtain ⟨z, hz, rfl⟩ := i64_at hu
          obtain ⟨hz1', hz2'⟩ := unhide HP k z hz
          rw [unhide HL] at hz2'
          have hz8 : z ≤ 8 := by omega
          obtain ⟨old, hold⟩ : ∃ old, wr.cell? ⟨g, k, none⟩ = some old := ⟨_, by rw [hown'.cellAt k (by omega)]; exact List.getElem?_eq_getElem (by omega)⟩
          have hfz := hown'.frozenAt k
          have hst := hide (take_set_i (u := .int .u8 (48 + z)) (unhide hx) (by unfold u8c; rw [List.getElem?_map, textI_at hz]; rfl) (by omega))
          have ho2 := (hown'.stored k (.int .u8 (48 + z))).1
          have hb2 := below_set_i hb hown' k (.int .u8 (48 + z))
          clear hx hlx hu hz hown' hb
          go_wp2
          go_roundw
          case rel => exact ⟨k + 1, _, by omega, by go_num, hb2, ho2, hst⟩
          case measure => simp [intOf]; omega
        · obtain rfl : n = k := by omega
          have : xs = u8c (textI zs) := by
            have h := unhide hx
            have h2 : (u8c (textI zs)).length = n := by unfold u8c; rw [List.length_map, textI_length, unhide HL]
            rwa [List.take_of_length_le (by omega), List.take_of_length_le (by omega)] at h
          subst this
          have hcv := cv_row (P := Try.prog) Try.underlying68 Try.underlying5 Try.underlying9 wr w.heap.size g n n 5 (textI zs) hown'
          rw [unhide HT] at hcv
          clear hx hlx hown'
          go_wp2
          go_ret
          exact ⟨rfl, hb⟩
end Go.Proofs.Ytffdnpgalpcigaa


/-
  CONTRACTS OF THE LAWS' HELPERS OVER []string THAT ONLY READ: szStringS, eqStringS.
-/

namespace Go.Proofs.Ytffdnpgalpcigaa
set_option maxRecDepth 100000
open Go.RowKit

def szGo : Int → List ByteArray → Int
  | l, [] => l
  | l, s :: r => if l - s.size < 0 then -1 else szGo (l - s.size) r

theorem strs_at {ss : List ByteArray} {k : Nat} {u : Value} (h : (ss.map Value.string)[k]? = some u) : ∃ s, ss[k]? = some s ∧ u = .string s := by
  rw [List.getElem?_map] at h
  cases hs : ss[k]? with
  | none => simp [hs] at h
  | some s => simp [hs] at h; exact ⟨s, rfl, h.symm⟩
theorem drop_at {α : Type} {l : List α} {k : Nat} {x : α} (h : l[k]? = some x) : l.drop k = x :: l.drop (k + 1) := by
  obtain ⟨hk, rfl⟩ := List.getElem?_eq_some_iff.1 h
  exact List.drop_eq_getElem_cons hk

theorem below_set_own {B : Nat} {w w' : World} {e : TypeId} {size : Nat} {g cap n : Nat} {xs : List Value} (hb : Below B w w') (hown : w'.ownsRow B e size (.slice (some ⟨g, 0, none⟩) n cap) n xs) (j : Nat) (u : Value) : Below B w (w'.setCell ⟨g, j, none⟩ u) :=
  hb.setCell (hown.lt g rfl).1 _

theorem strInfo : (Try.prog.info? 9).map (fun i => (i.zero, i.size, i.bytes)) = some (some (.string ByteArray.empty), 1, 16) := by kernel_rfl

theorem take_set_eq {α : Type} {xs ys : List α} {k : Nat} {u : α} (h : xs.take k = ys.take k) (hu : ys[k]? = some u) (hl : k < xs.length) : (xs.set k u).take (k + 1) = ys.take (k + 1) := by
  rw [List.take_add_one, List.take_add_one, List.take_set_of_le (Nat.le_refl _), h]
  simp [hu, hl]

end Go.Proofs.Ytffdnpgalpcigaa


/-
  spec.Join, by its contract: the bytes of the elements, the separator between them.
-/

namespace Go.Proofs.Ytffdnpgalpcigaa
set_option maxRecDepth 100000
open Go.RowKit

/-- The text behind k rounds. -/
def jn (sep : ByteArray) (ss : List ByteArray) : Nat → List UInt8
  | 0 => []
  | k + 1 => (jn sep ss k ++ (if 0 < k then sep.data.toList else [])) ++ (ss.getD k ByteArray.empty).data.toList

theorem join_snoc (sep x : List UInt8) (xs : List (List UInt8)) : Lib.join (xs ++ [x]) sep = (Lib.join xs sep ++ (if 0 < xs.length then sep else [])) ++ x := by
  cases xs with
  | nil => simp [Lib.join_nil, Lib.join_one]
  | cons y r => simp [Lib.join_cons, Lib.joinTail]

theorem jn_eq (sep : ByteArray) (ss : List ByteArray) : ∀ k, k ≤ ss.length → jn sep ss k = Lib.join ((ss.take k).map (·.data.toList)) sep.data.toList := by
  intro k
  induction k with
  | zero => intro _; simp [jn, Lib.join_nil]
  | succ k ih =>
    intro hk
    have hs : ss[k]? = some (ss.getD k ByteArray.empty) := by
      rw [List.getD_eq_getElem?_getD, List.getElem?_eq_getElem (by omega)]; rfl
    rw [jn, ih (by omega), List.take_add_one, hs]
    simp only [Option.toList_some, List.map_append, List.map_cons, List.map_nil, join_snoc]
    congr 3
    simp only [List.length_map, List.length_take, Nat.min_eq_left (show k ≤ ss.length by omega)]

theorem own_bytes_string {P : Program} {w : World} {base : Nat} {v : Value} {l : List UInt8} {src dst e : TypeId} (hs : P.underlying src = some (.slice e)) (he : P.underlying e = some (.int .u8)) (hd : P.underlying dst = some .string)
    (h : w.ownsRow base e 1 v l.length (Lib.byteCells l)) : (convert src dst v).run P w = .ok (.string ⟨l.toArray⟩) w := by
  rcases h.2 with ⟨rfl, h0⟩ | ⟨g, cap, cur, rfl, hb, hg, hnc, hcm, hsz, htake⟩
  · obtain rfl : l = [] := List.eq_nil_of_length_eq_zero h0
    exact Lib.run_convert_nil_bytes w src dst e 0 hs he hd
  · refine run_convert_bytes_back w src dst e _ cap l hs he hd fun j hj => ?_
    refine h.cells (g := g) rfl j _ ?_
    simp [Lib.byteCells, hj]

theorem byteInfoJ : (Try.prog.info? 5).map (fun i => (i.zero, i.size, i.bytes)) = some (some (.int .u8 0), 1, 1) := by kernel_rfl
theorem jn_length (sep : ByteArray) (ss : List ByteArray) (k : Nat) (s : ByteArray) (hs : ss[k]? = some s) : jn sep ss (k + 1) = (jn sep ss k ++ (if 0 < k then sep.data.toList else [])) ++ s.data.toList := by
  rw [jn, List.getD_eq_getElem?_getD, hs]; rfl
theorem size_list (s : ByteArray) : s.data.toList.length = s.size := by rw [Array.length_toList]; rfl

set_option maxHeartbeats 800000 in
theorem sjoin_any (A : Option Addr) (n c B : Nat) (ss : List ByteArray) (sep : ByteArray) (w : World) (hr : Reads w B A n (ss.map Value.string)) (hB : B ≤ w.heap.size) (hn : n ≤ 1099511627776)
    (hlen : ∀ k, k ≤ n → (jn sep ss k).length ≤ 4398046511104) :
    Calls Try.prog 48 #[.slice A n c, .string sep] w fun e w' => e = .returned (.string ⟨(jn sep ss n).toArray⟩) ∧ Below w.heap.size w w' := by
  obtain ⟨i0, hi, hz0, hz1, hz2⟩ := info_parts byteInfoJ
  have HL := hide hlen
  clear hlen
  have hst := World.ownsRow_made (base := w.heap.size) (e := 5) (size := 1) w #[] 0 (Nat.le_refl _) (by simp [maxLen]) rfl
  have hb1 : Below w.heap.size w (w.alloc (.cells #[] 5)) := (Below.refl _ _).alloc (Nat.le_refl _) _
  go_enter Try.func48, Try.ntmps48
  go_wp2
  go_loopw [5, 6] (fun v i wr => ∃ (k : Nat), k ≤ n ∧ i = .int .i64 k ∧ Below w.heap.size w wr ∧ wr.ownsRow w.heap.size 5 1 v (jn sep ss k).length (Lib.byteCells (jn sep ss k))) (fun _ i _ => n - (intOf i).toNat)
  case atStart => exact ⟨0, Nat.zero_le _, rfl, hb1, hst⟩
  case round =>
    obtain ⟨k, hk, rfl, hb, hown⟩ := hrel
    rename_i vv _ _
    clear hst hb1
    by_cases hlt : k < n
    · obtain ⟨ad, u, rfl, had, hu, hcw⟩ := (hr.more hB).at_ hlt
      obtain ⟨s, hs, rfl⟩ := strs_at hu
      have hblk : (ad.add k).block < w.heap.size := by rw [block_of_add]; exact had
      have HC := hide hcw
      clear hcw
      have hj := jn_length sep ss k s hs
      have h1 := unhide HL (k + 1) (by omega)
      have h2 := unhide HL k hk
      have hz := size_list s
      have hzs := size_list sep
      clear hu hs
      by_cases hk0 : 0 < k
      · rw [if_pos hk0] at hj
        have hjl : (jn sep ss (k + 1)).length = (jn sep ss k).length + sep.size + s.size := by rw [hj, List.length_append, List.length_append, hz, hzs]
        have HJ := hide hj
        have HJL := hide hjl
        have hb3 : (jn sep ss k).length + sep.size + s.size ≤ 4398046511104 := by omega
        clear hj hjl h1 hz hzs
        go_wp2_with (first
          | (at_builtin; refine Lib.wpList_append_own_string _ rfl (.tmp 16) (.tmp 17) 68 9 rfl w.heap.size 5 i0 Try.underlying68 Try.underlying9 hi hz0 hz1 hz2 _ _ _ rfl hown sep rfl (by simp only [maxLen]; omega) (by omega) hb.size ?_; intro v1 w1 hown1 hg1 hi1; clear hi1; have hb1 := hb.grown hg1 hb.size (fun g hg => (hown.lt g hg).1); have hc1 := (hb1.cell hblk).trans (unhide HC); have hsz1 := hb1.size)
          | (at_builtin; refine Lib.wpList_append_own_string _ rfl (.tmp 19) (.tmp 23) 68 9 rfl w.heap.size 5 i0 Try.underlying68 Try.underlying9 hi hz0 hz1 hz2 _ _ _ rfl hown1 s rfl (by simp only [maxLen]; omega) (by omega) hsz1 ?_; intro v2 w2 hown2 hg2 hi2; clear hi2))
        have hb2 := hb1.grown hg2 hsz1 (fun g hg => (hown1.lt g hg).1)
        have hown3 : w2.ownsRow w.heap.size 5 1 v2 (jn sep ss (k + 1)).length (Lib.byteCells (jn sep ss (k + 1))) := by
          rw [unhide HJL, unhide HJ, Lib.byteCells_append, Lib.byteCells_append, ← Lib.strCells_eq, ← Lib.strCells_eq]
          exact hown2
        clear hown2 hg2 hown1 hg1 hb1 hc1
        go_roundw
        case rel => exact ⟨k + 1, by omega, by go_num, hb2, hown3⟩
        case measure => simp [intOf]; omega
      · rw [if_neg hk0] at hj
        have hjl : (jn sep ss (k + 1)).length = (jn sep ss k).length + s.size := by rw [hj, List.append_nil, List.length_append, hz]
        have HJ := hide hj
        have HJL := hide hjl
        have hb3 : (jn sep ss k).length + s.size ≤ 4398046511104 := by omega
        have hc1 := (hb.cell hblk).trans (unhide HC)
        clear hj hjl h1 hz hzs
        go_wp2_with (first
          | (at_builtin; refine Lib.wpList_append_own_string _ rfl (.tmp 19) (.tmp 23) 68 9 rfl w.heap.size 5 i0 Try.underlying68 Try.underlying9 hi hz0 hz1 hz2 _ _ _ rfl hown s rfl (by simp only [maxLen]; omega) (by omega) hb.size ?_; intro v2 w2 hown2 hg2 hi2; clear hi2))
        have hb2 := hb.grown hg2 hb.size (fun g hg => (hown.lt g hg).1)
        have hown3 : w2.ownsRow w.heap.size 5 1 v2 (jn sep ss (k + 1)).length (Lib.byteCells (jn sep ss (k + 1))) := by
          rw [unhide HJL, unhide HJ, List.append_nil, Lib.byteCells_append, ← Lib.strCells_eq]
          exact hown2
        clear hown2 hg2 hc1
        go_roundw
        case rel => exact ⟨k + 1, by omega, by go_num, hb2, hown3⟩
        case measure => simp [intOf]; omega
    · obtain rfl : n = k := by omega
      have hcv := own_bytes_string Try.underlying68 Try.underlying5 Try.underlying9 hown
      clear hown
      go_wp2
      go_ret
      exact ⟨rfl, hb⟩
end Go.Proofs.Ytffdnpgalpcigaa


/-
  spec.TreeText, by its contract.
-/

namespace Go.Proofs.Ytffdnpgalpcigaa
set_option maxRecDepth 100000
open Go.RowKit

def oneT : ByteArray := ⟨#[49]⟩
set_option maxHeartbeats 1600000 in
theorem ttext_low (A : Option Addr) (n c B : Nat) (zs : List Int) (w : World) (h : Arg w B A n c zs) (hn : n = 1 ∨ splitOK zs = false) (d : ByteArray) (hd : d = if splitOK zs then oneT else ByteArray.empty) :
    Calls Try.prog 21 #[.slice A n c] w (fun e w' => e = .returned (.string d) ∧ Below w.heap.size w w') := by
  have hl := h.len
  have H0 := hide (ssplit_any A n c B zs w h)
  obtain ⟨b, hb⟩ : ∃ b, splitOK zs = b := ⟨_, rfl⟩
  rw [hb] at H0 hd
  cases b with
  | false =>
    subst hd
    rw [rootR_no hb, pcsR_no hb] at H0
    clear hb h hl hn
    go_enter Try.func21, Try.ntmps21
    go_wp2_with fail
    refine (unhide H0).mono ?_
    rintro e w2 ⟨A3, c3, A4, c4, rfl, hIn, hb2⟩
    clear H0
    go_wp2
    go_ret
    exact ⟨rfl, below_after hb2 ((Below.refl _ w2).alloc (Nat.le_refl _) _)⟩
  | true =>
    subst hd
    obtain rfl : n = 1 := by simpa [hb] using hn
    clear hb h hl hn
    go_enter Try.func21, Try.ntmps21
    go_wp2_with fail
    refine (unhide H0).mono ?_
    rintro e w2 ⟨A3, c3, A4, c4, rfl, hIn, hb2⟩
    have hb3 := below_after hb2 ((Below.refl _ w2).alloc (Nat.le_refl _) (.cells #[.slice A3 (rootR zs).length c3, .slice A4 (pcsR zs).length c4] 25))
    clear H0 hIn hb2
    go_wp2
    go_ret
    exact ⟨rfl, hb3⟩

def sepT : ByteArray := ⟨#[32]⟩
def barT (l : List ByteArray) : ByteArray := ⟨(jn sepT l l.length).toArray⟩
def textF : Nat → List Int → ByteArray
  | 0, p => if splitOK p then oneT else ByteArray.empty
  | m + 1, p => if splitOK p then (if p.length = 1 then oneT else ptext (rootP p) ++ ⟨#[40]⟩ ++ barT ((pcsP p).map (textF m)) ++ ⟨#[41]⟩) else ByteArray.empty
theorem textF_no {m : Nat} {p : List Int} (h : splitOK p = false) : textF m p = ByteArray.empty := by cases m <;> simp [textF, h]
theorem textF_one {m : Nat} {p : List Int} (h : splitOK p = true) (h1 : p.length = 1) : textF m p = oneT := by cases m <;> simp [textF, h, h1]
theorem textF_many {m : Nat} {p : List Int} (h : splitOK p = true) (h1 : p.length ≠ 1) : textF (m + 1) p = ptext (rootP p) ++ ⟨#[40]⟩ ++ barT ((pcsP p).map (textF m)) ++ ⟨#[41]⟩ := by simp [textF, h, h1]
theorem own0s (w : World) (B : Nat) (hB : B ≤ w.heap.size) : (w.alloc (.cells #[] 9)).ownsRow B 9 1 (.slice (some ⟨w.heap.size, 0, none⟩) 0 0) 0 [] :=
  World.ownsRow_made (base := B) (e := 9) (size := 1) w #[] 0 hB (by simp [maxLen]) rfl
theorem wpList_append_text {ops : Array Oper} {rest : List Oper} {o : Oper} {a : Act} {W : World} {Q : Exit → Act → World → Prop} (hgd : o.guard = none) (sl x : Operand)
    (ho : o.op = .call { callee := .builtin .append, args := #[sl, x], argTypes := #[47, 47] })
    (base n : Nat) (w0 wr : World) (v : Value) (ss : List ByteArray) (s : ByteArray) (hs : a.eval sl = v) (hx : a.eval x = .slice (some ⟨wr.heap.size, 0, none⟩) 1 1) (hW : W = wr.alloc (.cells #[.string s] 9))
    (hown : wr.ownsRow base 9 1 v n (ss.map Value.string)) (hn : n ≤ 1048576) (hb : Below base w0 wr) (hbase : base ≤ wr.heap.size)
    (K : ∀ v' w', w'.ownsRow base 9 1 v' (n + 1) ((ss ++ [s]).map Value.string) → Below base w0 w' → wpList Try.prog ops Q rest (a.put o.dst v') w') : wpList Try.prog ops Q (o :: rest) a W := by
  obtain ⟨i0, hi, hz0, hz1, hz2⟩ := info_parts strInfo
  refine wpList_append_one hgd sl x 47 ho base 9 i0 (.string ByteArray.empty) 16 Try.underlying47 hi hz0 hz1 hz2 rfl w0 wr v _ _ hs hown _ hx hW rfl (by omega) (by unfold maxLen; omega) hb hbase fun v' w' h1 h2 _ => K v' w' ?_ h2
  rw [List.map_append]
  exact h1

theorem textsz (p : List Int) : (ptext p).size ≤ 8 := by
  cases h : isP p with
  | false => rw [ptext_no h]; decide
  | true =>
    have h8 := isP_le h
    by_cases h0 : p.length = 0
    · rw [ptext_nil h h0]; decide
    · rw [ptext_yes h h0]
      show (textL p).toArray.size ≤ 8
      rw [List.size_toArray, textL_length]; exact h8
theorem jn_le {ss : List ByteArray} {S : Nat} (h : ∀ s ∈ ss, s.size ≤ S) : ∀ k, k ≤ ss.length → (jn sepT ss k).length ≤ k * (S + 1)
  | 0, _ => by simp [jn]
  | k + 1, hk => by
    have ih := jn_le h k (by omega)
    have hs : ss[k]? = some ss[k] := List.getElem?_eq_getElem (by omega)
    have := h ss[k] (List.getElem_mem _)
    rw [jn_length _ _ _ _ hs, List.length_append, List.length_append, size_list]
    have h1 : (if 0 < k then sepT.data.toList else []).length ≤ 1 := by split <;> simp [sepT]
    rw [Nat.add_mul, Nat.one_mul]; omega
theorem barsz {ss : List ByteArray} {S : Nat} (h : ∀ s ∈ ss, s.size ≤ S) : (barT ss).size ≤ ss.length * (S + 1) := by
  show (jn sepT ss ss.length).toArray.size ≤ _
  rw [List.size_toArray]; exact jn_le h _ (Nat.le_refl _)
theorem textF_size : ∀ (m : Nat) (p : List Int), (textF m p).size ≤ 20 ^ (m + 1)
  | 0, p => by rw [textF]; split <;> simp [oneT, ByteArray.size]
  | m + 1, p => by
    have h20 : 0 < 20 ^ (m + 1) := Nat.pow_pos (by decide)
    rw [textF]
    split
    · rename_i hs
      split
      · have : oneT.size = 1 := rfl
        rw [Nat.pow_succ]; omega
      · have h1 := textsz (rootP p)
        have h2 := barsz (ss := (pcsP p).map (textF m)) (S := 20 ^ (m + 1)) (fun s hs => by obtain ⟨z, _, rfl⟩ := List.mem_map.1 hs; exact textF_size m z)
        have h3 := pcsP_len (splitOK_all hs).1
        rw [List.length_map] at h2
        have h4 := Nat.mul_le_mul_right (20 ^ (m + 1) + 1) h3
        have e1 : (⟨#[40]⟩ : ByteArray).size = 1 := rfl
        have e2 : (⟨#[41]⟩ : ByteArray).size = 1 := rfl
        rw [ByteArray.size_append, ByteArray.size_append, ByteArray.size_append, e1, e2, Nat.pow_succ]
        omega
    · have : ByteArray.empty.size = 0 := rfl
      omega
theorem small_root {p : List Int} (h : isP p = true) : Small (rootP p) := by
  have h8 := isP_le h
  have h9 := cuts_length p 0
  intro z hz
  unfold rootP sumRoot at hz
  repeat' split at hz
  all_goals try (simp at hz; omega)
  have := patL_range z hz
  simp only [topsOf, List.length_map] at this
  omega

set_option maxHeartbeats 1600000 in
theorem ttext_any : ∀ (m : Nat) (A : Option Addr) (n c B : Nat) (zs : List Int) (w : World) (_ : Arg w B A n c zs) (_ : n ≤ m + 1) (_ : m ≤ 7),
    Calls Try.prog 21 #[.slice A n c] w (fun e w' => e = .returned (.string (textF m zs)) ∧ Below w.heap.size w w') := by
  intro m
  induction m with
  | zero =>
    intro A n c B zs w h hn hm
    refine ttext_low A n c B zs w h ?_ _ rfl
    by_cases h1 : n = 1
    · exact .inl h1
    · exact .inr (splitOK_no2 (by rw [h.len]; omega))
  | succ m ih =>
    intro A n c B zs w h hn hm
    by_cases hlow : n = 1 ∨ splitOK zs = false
    · refine ttext_low A n c B zs w h hlow _ ?_
      rcases hlow with h1 | h1
      · cases hs : splitOK zs with
        | false => rw [textF_no hs]; rfl
        | true => rw [textF_one hs (by rw [h.len]; exact h1)]; rfl
      · rw [textF_no h1, h1]; rfl
    · obtain ⟨hn1, hs⟩ := not_or.1 hlow
      have hs : splitOK zs = true := by simpa using hs
      have hl := h.len
      have hp := (splitOK_all hs).1
      have H0 := hide (ssplit_any A n c B zs w h)
      rw [pcsR_yes hs, rootR_yes hs, hs] at H0
      have HP := hide (fun z hz => pcsP_at hp z hz)
      have h8 := isP_le hp
      have HD := hide (textF_many (m := m) hs (by omega))
      have hpc := pcsP_len hp
      obtain ⟨R, hR⟩ : ∃ R, pcsP zs = R := ⟨_, rfl⟩
      rw [hR] at H0 HP hpc HD
      have HL := hide hl
      have hn2 : ¬ (n : Int) = 1 := by omega
      have hn3 : ((n : Int) == 1) = false := by simpa using hn2
      have h2n : 2 ≤ n := by have := (splitOK_all hs).2; omega
      have HSM := hide (small_root hp)
      have HRL := hide (show (rootP zs).length ≤ 1048576 by have := rootP_len hp; omega)
      clear hR hs hlow hp h hl h8
      go_enter Try.func21, Try.ntmps21
      go_wp2_with fail
      refine (unhide H0).mono ?_
      rintro e w2 ⟨A3, c3, A4, c4, rfl, hIn, hb2⟩
      have hal := (Below.refl _ w2).alloc (Nat.le_refl _) (.cells #[.slice A3 (rootP zs).length c3, .slice A4 R.length c4] 25)
      have hW := Whole.new w2 25 #[.slice A3 (rootP zs).length c3, .slice A4 R.length c4]
      have hT := own0s (w2.alloc (.cells #[.slice A3 (rootP zs).length c3, .slice A4 R.length c4] 25)) (w2.heap.size + 1) (by simp)
      have hX := hIn.below (below_after ((Below.refl _ w2)) hal)
      have HB := hide (below_after hb2 hal)
      have hbl := (Below.refl (w2.heap.size + 1) (w2.alloc (.cells #[.slice A3 (rootP zs).length c3, .slice A4 R.length c4] 25))).alloc (by simp) (.cells #[] 9)
      have hz3 : (w2.alloc (.cells #[.slice A3 (rootP zs).length c3, .slice A4 R.length c4] 25)).heap.size = w2.heap.size + 1 := by simp
      rw [hz3] at hT
      clear H0 hIn hb2 hal
      go_wp2
      generalize hw3 : w2.alloc (.cells #[.slice A3 (rootP zs).length c3, .slice A4 R.length c4] 25) = w3 at hW hT hX HB hbl hz3 ⊢
      clear hw3
      go_loopw [5, 6] (fun v i wr => ∃ k : Nat, k ≤ R.length ∧ i = .int .i64 k ∧ wr.ownsRow (w2.heap.size + 1) 9 1 v k (((R.take k).map (textF m)).map Value.string) ∧ Below (w2.heap.size + 1) w3 wr) (fun _ i _ => R.length - (intOf i).toNat)
      case atStart => exact ⟨0, Nat.zero_le _, rfl, hT, hbl⟩
      case round =>
        obtain ⟨k, hk, rfl, hO, hbr⟩ := hrel
        clear hT hbl
        have hWr := hW.below hbr (Nat.lt_succ_self _)
        have q1 := hWr.cell 1
        have q0 := hWr.cell 0
        simp only [List.getElem?_toArray, List.getElem?_cons_zero, List.getElem?_cons_succ] at q0 q1
        have hXr := hX.below (hbr.mono (by omega))
        have hszr := hbr.size
        by_cases hlt : k < R.length
        · obtain ⟨ad, A1, c1, z, rfl, hz, hcell, hIz⟩ := hXr.pcs.intsS.at_ hlt
          have hzp := unhide HP z (List.mem_of_getElem? hz)
          have hz1 : z.length ≤ m + 1 := by have := hzp.2.2.2 (by rw [unhide HL]; omega); rw [unhide HL] at this; omega
          have HI := hide (ih A1 z.length c1 _ z wr (hIz.argP hzp.1) hz1 (by omega))
          have HT := hide (take_snoc_r hz)
          clear hz hIz hzp hz1 hXr hX hW hWr
          go_wp2_with fail
          refine (unhide HI).mono ?_
          rintro e w4 ⟨rfl, hb4⟩
          have hO4 := own_below hO hb4
          have hb5 := hbr.trans (hb4.mono (by omega))
          have hs4 : w2.heap.size + 1 ≤ w4.heap.size := by have := hb4.size; omega
          clear HI hO hb4
          go_wp2_with (first
            | (at_builtin; refine wpList_append_text rfl (.tmp 25) (.tmp 32) rfl (w2.heap.size + 1) k w3 w4 _ _ _ rfl rfl rfl hO4 (by omega) hb5 hs4 ?_; intro v6 w6 hO6 hb6))
          go_roundw
          case rel => exact ⟨k + 1, by omega, by go_num, by rw [unhide HT, List.map_append]; exact hO6, hb6⟩
          case measure => simp [intOf]; omega
        · obtain rfl : R.length = k := by omega
          rw [List.take_length] at hO
          have hbw := below_after (unhide HB) (hbr.mono (by omega))
          have HT := hide (stext_any _ _ _ _ _ wr (hXr.row.arg (unhide HRL) hXr.row.cap (unhide HSM)))
          have HO := hide hO
          obtain ⟨A9, c9, rfl⟩ : ∃ A9 c9, u5 = .slice A9 R.length c9 := by
            rcases hO.2 with ⟨hv, hz⟩ | ⟨g, cap, cur, hv, _⟩
            · exact ⟨none, 0, by rw [hv, hz]⟩
            · exact ⟨_, _, hv⟩
          clear hO hXr hX hW hWr ih
          have hsz := textsz (rootP zs)
          go_wp2_with fail
          refine (unhide HT).mono ?_
          rintro e w4 ⟨rfl, hb4⟩
          have hO4 := own_below (unhide HO) hb4
          have hbw4 := below_after hbw hb4
          have hX7 : 20 ^ (m + 1) ≤ 1280000000 := Nat.pow_le_pow_right (n := 20) (by decide) (show m + 1 ≤ 7 by omega)
          have hjs : ∀ s ∈ R.map (textF m), s.size ≤ 1280000000 := fun s hs => by
            obtain ⟨z, _, rfl⟩ := List.mem_map.1 hs
            exact Nat.le_trans (textF_size m z) hX7
          have hmul : ∀ k, k ≤ R.length → k * (1280000000 + 1) ≤ 4398046511104 := fun k hk => by omega
          have H7 := hide (sjoin_any A9 R.length c9 w4.heap.size (R.map (textF m)) sepT w4 (Reads.of_own_at hO4) (Nat.le_refl _) (by omega) (fun k hk => Nat.le_trans (jn_le hjs k (by rw [List.length_map]; exact hk)) (hmul k hk)))
          have hbs := barsz hjs
          have HBS := hide hbs
          clear hX7 hjs hmul hbs HT hO4
          go_wp2_with fail
          refine (unhide H7).mono ?_
          rintro e w5 ⟨rfl, hb5⟩
          have hbw5 := below_after hbw4 hb5
          have hJ : (⟨(jn sepT (R.map (textF m)) R.length).toArray⟩ : ByteArray) = barT (R.map (textF m)) := by unfold barT; rw [List.length_map]
          rw [hJ]
          have hJs : (barT (R.map (textF m))).size ≤ 20000000000 := by
            have := unhide HBS
            rw [List.length_map] at this
            omega
          have HD2 := hide (unhide HD)
          clear HD HBS hJ H7 hb5 hb4 hbw4 hbw
          generalize barT (R.map (textF m)) = J at HD2 hJs ⊢
          generalize ptext (rootP zs) = T at HD2 hsz ⊢
          go_wp2
          go_ret
          exact ⟨by rw [unhide HD2]; rfl, hbw5⟩
end Go.Proofs.Ytffdnpgalpcigaa


/-
  impl.Join at a row of the call's own, by its contract: the library's Join.
-/

namespace Go.Proofs.Ytffdnpgalpcigaa
set_option maxRecDepth 100000
open Go.RowKit

theorem ijoin_row (g n c : Nat) (ss : List ByteArray) (sep : ByteArray) (w : World) (base : Nat) (hown : w.ownsRow base 9 1 (.slice (some ⟨g, 0, none⟩) n c) n (ss.map Value.string)) (hn : n ≤ 1099511627776) (hc : n ≤ c)
    (hlen : (Lib.join (ss.map (·.data.toList)) sep.data.toList).length ≤ 4398046511104) :
    Calls Try.prog 71 #[.slice (some ⟨g, 0, none⟩) n c, .string sep] w fun e w' => e = .returned (.string ⟨(Lib.join (ss.map (·.data.toList)) sep.data.toList).toArray⟩) ∧ Below w.heap.size w w' := by
  have hl : ss.length = n := by simpa using hown.1
  subst hl
  have hcells : ∀ (j : Nat) x, ss[j]? = some x → w.cell? ⟨g, 0 + j, none⟩ = some (.string x) := fun j x hx => by
    have := hown.cells (g := g) rfl j (.string x) (by rw [List.getElem?_map, hx]; rfl)
    rw [← this]
    congr 1
    unfold Addr.add
    split <;> simp_all
  have H := hide (Try.strings_Join g 0 c ss sep w hcells (hown.lt g rfl).2 (by omega) hc (by omega))
  clear hcells hown hlen hn hc
  go_enter Try.func71, Try.ntmps71
  go_wp2_with fail
  refine (unhide H).mono ?_
  rintro e w' ⟨rfl, hb⟩
  clear H
  go_wp2
  go_ret
  exact ⟨rfl, hb⟩
theorem own_cap {w : World} {base n c g : Nat} {xs : List Value} {e : TypeId} (h : w.ownsRow base e 1 (.slice (some ⟨g, 0, none⟩) n c) n xs) : n ≤ c := by
  rcases h.2 with ⟨h0, _⟩ | ⟨g', cap, cur, hv, _, _, hnc, _⟩
  · cases h0
  · injection hv with _ _ h3
    omega
theorem own_head {w : World} {base n : Nat} {v : Value} {xs : List Value} {e : TypeId} (h : w.ownsRow base e 1 v n xs) (hn : 0 < n) : ∃ g c, v = .slice (some ⟨g, 0, none⟩) n c := by
  rcases h.2 with ⟨_, h0⟩ | ⟨g, cap, cur, rfl, _⟩
  · omega
  · exact ⟨g, cap, rfl⟩
end Go.Proofs.Ytffdnpgalpcigaa
