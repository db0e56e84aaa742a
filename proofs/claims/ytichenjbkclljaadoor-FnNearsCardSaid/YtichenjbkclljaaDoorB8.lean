/-
  Words and contracts that the laws lean on, bundled: Sames, SameN, RunsI, Split, IJoin, Jots, TxtI, ParI, Tell.
-/
import Derived.Test.YtichenjbkclljaaDoorB1
import Derived.Test.YtichenjbkclljaaDoorB5
import Derived.Test.YtichenjbkclljaaDoorB7
import Derived.Test.YtichenjbkclljaaDoorB3
import Derived.Test.YtichenjbkclljaaDoorShelfS
import Derived.Test.YtichenjbkclljaaDoorShelfJ
import Derived.Lib.Join
import Derived.Test.YtichenjbkclljaaDoorB6
import Derived.Laws.BitsLemmas
import Derived.Laws.Bits64b
import Derived.Lib.ConvBytes
import Derived.Lib.AtoiErrMem
import Derived.RangeFuncNested
import Derived.RangeFuncBound
import Derived.RangeFuncCalls
import Derived.RangeFuncLeaves

/-
  laws.sameInts, laws.sameLists, at equal lists, by their contracts.
-/

namespace Go.Proofs.YtichenjbkclljaaDoor
set_option maxRecDepth 100000
open Go.RowKit

set_option maxHeartbeats 400000 in
/-- laws.sameInts: equal lists. -/
theorem samei_any (A A' : Option Addr) (n c n' c' B B' : Nat) (zs : List Int) (w : World) (hr : Reads w B A n (i64s zs)) (hr' : Reads w B' A' n' (i64s zs)) (hn : n ≤ 1099511627776) :
    Calls Tryd.prog 49 #[.slice A n c, .slice A' n' c'] w fun e w' => e = .returned (.bool true) ∧ Drew w w' := by
  have e1 : zs.length = n := by have := hr.1; rwa [i64_length] at this
  have e2 : zs.length = n' := by have := hr'.1; rwa [i64_length] at this
  obtain rfl : n = n' := by omega
  clear e1 e2
  go_enter Tryd.func49, Tryd.ntmps49
  go_wp2
  go_loopw [5] (fun i wr => ∃ k : Nat, k ≤ n ∧ i = .int .i64 k ∧ Drew w wr) (fun i _ => n - (intOf i).toNat)
  case atStart => exact ⟨0, Nat.zero_le _, rfl, Drew.refl _⟩
  case round =>
    obtain ⟨k, hk, rfl, hd⟩ := hrel
    by_cases hlt : k < n
    · obtain ⟨ad, u, rfl, _, hx, hc⟩ := (hr.ofDrew hd).at_ hlt
      obtain ⟨ad', u', rfl, _, hx', hc'⟩ := (hr'.ofDrew hd).at_ hlt
      obtain ⟨s, hs, rfl⟩ := i64_at hx
      obtain ⟨s', hs', rfl⟩ := i64_at hx'
      obtain rfl : s = s' := by rw [hs] at hs'; exact Option.some.inj hs'
      clear hx hx' hs hs' hr hr'
      have HD := hide hd
      clear hd
      go_wp2
      go_quiet (fail)
      go_wp2
      go_roundw
      case rel => exact ⟨k + 1, by omega, by go_num, (unhide HD).more _⟩
      case measure => simp [intOf]; omega
    · go_wp2
      go_ret
      exact ⟨rfl, hd⟩

end Go.Proofs.YtichenjbkclljaaDoor


/-
  laws.sameNear at equal structs, by its contract.
-/

namespace Go.Proofs.YtichenjbkclljaaDoor
set_option maxRecDepth 100000
open Go.RowKit

set_option maxHeartbeats 800000 in
theorem samen_any (A P A' P' : Option Addr) (n c m d n' c' m' d' B B' : Nat) (q J : List Int) (w : World) (h : NearAt w B (.slice A n c) (.slice P m d) q J) (h' : NearAt w B' (.slice A' n' c') (.slice P' m' d') q J)
    (hr : q.length ≤ 1048576) (hp : J.length ≤ 1048576) :
    Calls Tryd.prog 16 #[.agg #[.slice A n c, .slice P m d], .agg #[.slice A' n' c', .slice P' m' d']] w (GivesB w true) := by
  have b1' := (Below.refl _ w).alloc (Nat.le_refl _) (.cells #[.slice A n c, .slice P m d] 26)
  have b2' := b1'.alloc (by simp) (.cells #[.slice A' n' c', .slice P' m' d'] 26)
  have g1 := (Whole.new w 26 #[.slice A n c, .slice P m d]).alloc (.cells #[.slice A' n' c', .slice P' m' d'] 26)
  have g2 := Whole.new (w.alloc (.cells #[.slice A n c, .slice P m d] 26)) 26 #[.slice A' n' c', .slice P' m' d']
  simp only [World.size_alloc] at g2
  have i1 := h.below b2'
  have i2 := h'.below b2'
  have l1 := i1.p.len
  have l2 := i1.j.len
  have H1 := hide (samei_any A A' n c n' c' _ _ q _ i1.p.reads i2.p.reads (by omega))
  have HI := hide (And.intro i1 i2)
  clear b1' i1 i2 h h'
  go_enter Tryd.func16, Tryd.ntmps16
  go_wp2_with fail
  refine (unhide H1).mono ?_
  rintro e w3 ⟨rfl, hd⟩
  have hb3 := b2'.trans (hd.below _)
  have k1 := (Whole.below g1 (hd.below (w.heap.size + 2)) (by omega)).cell 1
  have k2 := (Whole.below g2 (hd.below (w.heap.size + 2)) (by omega)).cell 1
  simp only [List.getElem?_toArray, List.getElem?_cons_zero, List.getElem?_cons_succ] at k1 k2
  have H2 := hide (samei_any P P' m d m' d' _ _ J w3 ((unhide HI).1.below (hd.below _)).j.reads ((unhide HI).2.below (hd.below _)).j.reads (by omega))
  clear H1 hd b2' g1 g2 HI
  go_wp2_with fail
  refine (unhide H2).mono ?_
  rintro e w4 ⟨rfl, hd4⟩
  have hb5 := hb3.trans (hd4.below _)
  clear H2 hd4 hb3
  go_wp2
  go_ret
  exact ⟨rfl, hb5⟩
end Go.Proofs.YtichenjbkclljaaDoor


/-
  impl.joinedInRuns, by its contract.
-/

namespace Go.Proofs.YtichenjbkclljaaDoor
set_option maxRecDepth 100000
open Go.RowKit

theorem runJ_len (p L : Nat) : (runJ p L).length = L - 1 := by simp [runJ]
theorem runsJ_len : ∀ (Ls : List Nat) (p : Nat), (runsJ p Ls).length ≤ Ls.sum
  | [], _ => Nat.le_refl _
  | L :: r, p => by
    have := runsJ_len r (p + L)
    rw [runsJ, List.length_append, runJ_len, List.sum_cons]; omega
theorem sum_take_le : ∀ (Ls : List Nat) (r : Nat), (Ls.take r).sum ≤ Ls.sum
  | [], r => by simp
  | a :: l, 0 => by simp
  | a :: l, r + 1 => by
    have := sum_take_le l r
    rw [List.take_succ_cons, List.sum_cons, List.sum_cons]; omega
theorem take_snocN {Ls : List Nat} {r L : Nat} (h : Ls[r]? = some L) : Ls.take (r + 1) = Ls.take r ++ [L] := by
  rw [List.take_add_one, h]; rfl
/-- The places that the first i steps of a run of L behind p give. -/
def runI (p L i : Nat) : List Int := (List.range (min i (L - 1))).map fun (j : Nat) => ((p + j : Nat) : Int) + 1
theorem runI_zero (p L : Nat) : runI p L 0 = [] := by simp [runI]
theorem runI_yes {p L i : Nat} (h : i + 1 < L) : runI p L (i + 1) = runI p L i ++ [((p + i : Nat) : Int) + 1] := by
  unfold runI
  rw [Nat.min_eq_left (by omega), Nat.min_eq_left (by omega), List.range_succ, List.map_append]; rfl
theorem runI_no {p L i : Nat} (h : ¬ i + 1 < L) : runI p L (i + 1) = runI p L i := by
  unfold runI
  rw [Nat.min_eq_right (by omega), Nat.min_eq_right (by omega)]
theorem runI_all (p L : Nat) : runI p L L = runJ p L := by
  unfold runI runJ
  rw [Nat.min_eq_right (by omega)]
theorem runI_len (p L i : Nat) : (runI p L i).length ≤ i := by unfold runI; simp; omega
theorem i64_join (a : List Int) (z : Int) : i64s a ++ [Value.int .i64 z] = i64s (a ++ [z]) := by unfold i64s; simp
set_option maxHeartbeats 1600000 in
theorem runs_any (A : Option Addr) (n c B : Nat) (ss : List ByteArray) (w : World) (hr : Reads w B A n (ss.map Value.string)) (hB : B ≤ w.heap.size) (hn : n ≤ 2097152) (hsum : (ss.map (·.size)).sum ≤ 1048576) :
    Calls Tryd.prog 35 #[.slice A n c] w (GivesI w (runsJ 0 (ss.map (·.size)))) := by
  obtain ⟨i0, hi, hz0, hz1, hz2⟩ := info_parts intInfo
  obtain ⟨Ls, hLs⟩ : ∃ Ls, Ls = ss.map (·.size) := ⟨_, rfl⟩
  rw [← hLs] at hsum ⊢
  have hl : Ls.length = n := by rw [hLs]; have := hr.1; rw [List.length_map] at this; rw [List.length_map]; exact this
  have HLS := hide (show ∀ (r : Nat) (s : ByteArray), ss[r]? = some s → Ls[r]? = some s.size from fun r s h => by rw [hLs, List.getElem?_map, h]; rfl)
  have HL := hide hl
  clear hLs hl
  go_enter Tryd.func35, Tryd.ntmps35
  go_wp2
  go_loopw [3, 4, 10] (fun v p i wr => ∃ (r k : Nat), r ≤ n ∧ i = .int .i64 r ∧ p = .int .i64 ((Ls.take r).sum : Nat) ∧ k = (runsJ 0 (Ls.take r)).length ∧ Below w.heap.size w wr ∧ wr.ownsRow w.heap.size 3 1 v k (i64s (runsJ 0 (Ls.take r)))) (fun _ _ i _ => n - (intOf i).toNat)
  case atStart => exact ⟨0, 0, Nat.zero_le _, rfl, rfl, rfl, Below.refl _ _, World.ownsRow_nil _ _ _ _⟩
  case round =>
    obtain ⟨r, k, hrn, rfl, rfl, hk, hb, hown⟩ := hrel
    by_cases hlt : r < n
    · obtain ⟨ad, u, rfl, _, hu, hc⟩ := (hr.below (hb.mono hB)).at_ hlt
      obtain ⟨s, hs, rfl⟩ := strs_at hu
      have hsz := unhide HLS r s hs
      have hstep := take_snocN hsz
      have hsum1 : (Ls.take (r + 1)).sum = (Ls.take r).sum + s.size := by rw [hstep, List.sum_append]; simp
      have hle := sum_take_le Ls (r + 1)
      have hjoin : runsJ 0 (Ls.take (r + 1)) = runsJ 0 (Ls.take r) ++ runJ (Ls.take r).sum s.size := by rw [hstep, runsJ_snoc, Nat.zero_add]
      have hkl := runsJ_len (Ls.take r) 0
      obtain ⟨p, hp⟩ : ∃ p, p = (Ls.take r).sum := ⟨_, rfl⟩
      obtain ⟨R, hR⟩ : ∃ R, R = runsJ 0 (Ls.take r) := ⟨_, rfl⟩
      rw [← hp] at hsum1 hkl hjoin ⊢
      rw [← hR] at hk hown hjoin hkl
      have hpL : p + s.size ≤ 1048576 := by omega
      have hkp : k ≤ p := by omega
      have HN := hide (⟨hsum1, hjoin⟩ : (Ls.take (r + 1)).sum = p + s.size ∧ runsJ 0 (Ls.take (r + 1)) = R ++ runJ p s.size)
      clear hu hs hsz hstep hsum1 hle hjoin hkl hp hR hr hsum HLS
      go_wp2
      obtain ⟨wo, hwo⟩ : ∃ wo, wo = wr := ⟨_, rfl⟩
      rw [← hwo]
      rw [← hwo] at hb hown
      clear hc hwo
      go_loopw [3, 4, 16] (fun v p' i wi => ∃ (t q : Nat), t ≤ s.size ∧ i = .int .i64 t ∧ p' = .int .i64 ((p + t : Nat) : Int) ∧ q = (R ++ runI p s.size t).length ∧ Below w.heap.size w wi ∧ wi.ownsRow w.heap.size 3 1 v q (i64s (R ++ runI p s.size t))) (fun _ _ i _ => s.size - (intOf i).toNat)
      case atStart => exact ⟨0, k, Nat.zero_le _, rfl, rfl, by rw [runI_zero, List.append_nil]; exact hk, hb, by rw [runI_zero, List.append_nil]; exact hown⟩
      case round =>
        obtain ⟨t, q, ht, rfl, rfl, hq, hb2, hown2⟩ := hrel
        have hq1 : q ≤ k + t := by rw [hq, List.length_append, ← hk]; have := runI_len p s.size t; omega
        have hbs := hb2.size
        clear hb hown
        by_cases htl : t < s.size
        · by_cases hmore : t + 1 < s.size
          · have hlt2 : (t : Int) < (s.size : Int) - 1 := by omega
            have he := runI_yes (p := p) hmore
            have HE := hide (show i64s (R ++ runI p s.size t) ++ [Value.int .i64 (((p + t : Nat) : Int) + 1)] = i64s (R ++ runI p s.size (t + 1)) by rw [he, i64_join, List.append_assoc])
            have HQ := hide (show q + 1 = (R ++ runI p s.size (t + 1)).length by rw [he, ← List.append_assoc, List.length_append, ← hq]; rfl)
            obtain ⟨x, hx⟩ : ∃ x : Nat, x = p + t := ⟨_, rfl⟩
            rw [← hx] at HE
            rw [← hx]
            have hx1 : x ≤ 1048576 := by omega
            have HX := hide hx
            clear he hq hx
            go_wp2_with (at_builtin; refine wpList_append_one rfl (.tmp 26) (.tmp 28) 24 rfl w.heap.size 3 i0 (.int .i64 0) 8 Tryd.underlying24 hi hz0 hz1 hz2 rfl wr wr _ q _ rfl hown2 (.int .i64 ((x : Int) + 1)) rfl rfl rfl (by omega) (by unfold maxLen; omega) (Below.refl _ _) hbs ?_)
            intro v' w' hown' hb' hg'
            have hb3 := hb2.trans hb'
            rw [unhide HE] at hown'
            clear hown2 hb2 hb' hg' HE
            go_wp2
            go_roundw
            case rel => exact ⟨t + 1, q + 1, by omega, by go_num, by have := unhide HX; go_num, unhide HQ, hb3, hown'⟩
            case measure => simp [intOf]; omega
          · have hge2 : ¬ ((t : Int) < (s.size : Int) - 1) := by omega
            have he := runI_no (p := p) hmore
            have HQ := hide (show q = (R ++ runI p s.size (t + 1)).length by rw [he]; exact hq)
            have hown3 : wr.ownsRow w.heap.size 3 1 u3 q (i64s (R ++ runI p s.size (t + 1))) := by rw [he]; exact hown2
            obtain ⟨x, hx⟩ : ∃ x : Nat, x = p + t := ⟨_, rfl⟩
            rw [← hx]
            have hx1 : x ≤ 1048576 := by omega
            have HX := hide hx
            clear he hq hx hown2
            go_wp2
            go_roundw
            case rel => exact ⟨t + 1, q, by omega, by go_num, by have := unhide HX; go_num, unhide HQ, hb2, hown3⟩
            case measure => simp [intOf]; omega
        · obtain rfl : t = s.size := by omega
          obtain ⟨e1, e2⟩ := unhide HN
          rw [runI_all, ← e2] at hq hown2
          have HQ := hide hq
          have HS := hide e1
          clear hq e1 e2
          go_wp2
          go_roundw
          case rel => exact ⟨r + 1, q, by omega, by go_num, by have := unhide HS; go_num, unhide HQ, hb2, hown2⟩
          case measure => simp [intOf]; omega
    · obtain rfl : r = n := by omega
      rw [List.take_of_length_le (Nat.le_of_eq (unhide HL))] at hown hk
      have hI : Ints wr w.heap.size u3 (runsJ 0 Ls) := Ints.of_own hown
      clear hown hk hr
      go_wp2
      go_ret
      exact GivesI.mk hI hb
end Go.Proofs.YtichenjbkclljaaDoor


/-
  impl.SplitByte and spec.SplitByte, by their contracts: a new row that holds the pieces.
-/

namespace Go.Proofs.YtichenjbkclljaaDoor
set_option maxRecDepth 100000
open Go.RowKit

/-- A new row that holds these strings. -/
def GivesStrs (w : World) (ss : List ByteArray) (e : Ending) (w' : World) : Prop :=
  ∃ v, e = .returned v ∧ w'.ownsRow w.heap.size 9 1 v ss.length (ss.map Value.string) ∧ Below w.heap.size w w'

/-- A byte's number as the byte. -/
def byteOf (b : Int) : UInt8 := UInt8.ofNat b.toNat

theorem isplit_any (s : ByteArray) (hs : s.size ≤ 1048576) (b : Int) (m : Int) (w : World) (hm : w.cell? ⟨0, 0, none⟩ = some (.int .i64 m)) :
    Calls Tryd.prog 32 #[.string s, .int .u8 b] w (GivesStrs w (pieces s (byteOf b))) := by
  have hcv := cv_one (P := Tryd.prog) Tryd.underlying22 Tryd.underlying5 Tryd.underlying9 w b
  have H := hide (Any.strings_Split { Tryd.laysM146 with } Tryd.laysM146.i9 s ⟨#[byteOf b]⟩ m (w.alloc (.cells #[.int .u8 b] 5)) (by omega) (by
    rw [World.cell?_alloc_lt]
    · exact hm
    · exact World.block_lt_of_cell? w _ hm) (Nat.le_refl 1))
  rw [splitB_pieces] at H
  clear hm
  go_enter Tryd.func32, Tryd.ntmps32
  go_wp2_with fail
  refine (unhide H).mono ?_
  rintro e w' ⟨rfl, rfl⟩
  clear H hcv
  go_wp2
  go_ret
  have hl := pieces_length s (byteOf b)
  refine ⟨_, rfl, ?_, ?_⟩
  · refine ⟨by simp, .inr ⟨w.heap.size + 1, Lib.countB s ⟨#[byteOf b]⟩ + 1, ((pieces s (byteOf b)).map Value.string).toArray, ?_, by omega, ?_, by omega, ?_, ?_, ?_⟩⟩
    · rw [hl]; simp
    · have h := heap_alloc_new (w.alloc (.cells #[.int .u8 b] 5)) (.cells ((pieces s (byteOf b)).map Value.string).toArray 9)
      rw [show w.heap.size + 1 = (w.alloc (.cells #[.int .u8 b] 5)).heap.size by simp]
      exact h
    · have := pieces_le s (byteOf b); unfold maxLen; omega
    · simp [hl]
    · rw [hl, Nat.mul_one]; exact List.take_of_length_le (by rw [List.length_map, hl]; exact Nat.le_refl _)
  · exact ((Below.refl _ _).alloc (Nat.le_refl _) _).alloc (by simp) _

theorem strInfo' : (Tryd.prog.info? 9).map (fun i => (i.zero, i.size, i.bytes)) = some (some (.string ByteArray.empty), 1, 16) := by kernel_rfl

/-- Where the loop of spec.SplitByte stands: at place k, the last piece begun at 'fr', 'done' laid. -/
def At (s : ByteArray) (c : UInt8) (k fr : Nat) (done : List ByteArray) : Prop :=
  (k ≤ s.size ∧ done.map (·.data.toList) ++ glue ((s.data.toList.take k).drop fr) (splitL c (s.data.toList.drop k)) = splitL c s.data.toList) ∨ (k = s.size + 1 ∧ done.map (·.data.toList) = splitL c s.data.toList)

theorem take_drop_snoc {s : ByteArray} {k fr : Nat} (h : k < s.size) (hf : fr ≤ k) : (s.data.toList.take (k + 1)).drop fr = (s.data.toList.take k).drop fr ++ [s[k]] := by
  have e : s.data.toList.length = s.size := size_list' s
  have hk : s.data.toList[k]? = some s[k] := by rw [List.getElem?_eq_getElem (by omega)]; rfl
  rw [List.take_add_one, hk, Option.toList_some, List.drop_append_of_le_length (by rw [List.length_take]; omega)]
theorem drop_at_byte {s : ByteArray} {k : Nat} (h : k < s.size) : s.data.toList.drop k = s[k] :: s.data.toList.drop (k + 1) := by
  have e : s.data.toList.length = s.size := size_list' s
  rw [List.drop_eq_getElem_cons (by omega)]; rfl
theorem extract_list (s : ByteArray) (fr k : Nat) : (s.extract fr k).data.toList = (s.data.toList.take k).drop fr := by
  rw [ByteArray.data_extract, Array.toList_extract, List.extract_eq_take_drop, List.drop_take]
theorem At.start (s : ByteArray) (c : UInt8) : At s c 0 0 [] := .inl ⟨Nat.zero_le _, by simp only [List.take_zero, List.drop_nil, List.drop_zero, List.map_nil, List.nil_append]; exact glue_nil (splitL_ne c _)⟩
theorem At.hit {s : ByteArray} {c : UInt8} {k fr : Nat} {done : List ByteArray} (h : At s c k fr done) (hk : k < s.size) (he : s[k] = c) : At s c (k + 1) (k + 1) (done ++ [s.extract fr k]) := by
  rcases h with ⟨_, h⟩ | ⟨h, _⟩
  · refine .inl ⟨hk, ?_⟩
    rw [← h, drop_at_byte hk, he, split_hit, List.map_append, List.append_assoc, List.map_singleton, extract_list]
    rw [show (s.data.toList.take (k + 1)).drop (k + 1) = [] from List.drop_of_length_le (by rw [List.length_take]; omega), glue_nil (splitL_ne c _)]
    rfl
  · omega
theorem At.miss {s : ByteArray} {c : UInt8} {k fr : Nat} {done : List ByteArray} (h : At s c k fr done) (hk : k < s.size) (hf : fr ≤ k) (he : s[k] ≠ c) : At s c (k + 1) fr done := by
  rcases h with ⟨_, h⟩ | ⟨h, _⟩
  · refine .inl ⟨hk, ?_⟩
    rw [← h, drop_at_byte hk, split_miss he, take_drop_snoc hk hf]
  · omega
theorem At.last {s : ByteArray} {c : UInt8} {fr : Nat} {done : List ByteArray} (h : At s c s.size fr done) (fr' : Nat) : At s c (s.size + 1) fr' (done ++ [s.extract fr s.size]) := by
  have e : s.data.toList.length = s.size := size_list' s
  rcases h with ⟨_, h⟩ | ⟨h, _⟩
  · refine .inr ⟨rfl, ?_⟩
    have hd : s.data.toList.drop s.size = [] := List.drop_of_length_le (by omega)
    rw [← h, List.map_append, List.map_singleton, extract_list, hd]
    simp [splitL, glue]
  · omega
theorem At.done {s : ByteArray} {c : UInt8} {fr : Nat} {done : List ByteArray} (h : At s c (s.size + 1) fr done) : done = pieces s c := by
  rcases h with ⟨h, _⟩ | ⟨_, h⟩
  · omega
  · exact bytes_inj_list (h.trans (pieces_data s c).symm)

end Go.Proofs.YtichenjbkclljaaDoor


/-
  impl.Join at a row of the call's own, by its contract: the library's Join.
-/

namespace Go.Proofs.YtichenjbkclljaaDoor
set_option maxRecDepth 100000
open Go.RowKit

theorem ijoin_row (g n c : Nat) (ss : List ByteArray) (sep : ByteArray) (w : World) (base : Nat) (hown : w.ownsRow base 9 1 (.slice (some ⟨g, 0, none⟩) n c) n (ss.map Value.string)) (hn : n ≤ 1099511627776) (hc : n ≤ c)
    (hlen : (Lib.join (ss.map (·.data.toList)) sep.data.toList).length ≤ 4398046511104) :
    Calls Tryd.prog 34 #[.slice (some ⟨g, 0, none⟩) n c, .string sep] w fun e w' => e = .returned (.string ⟨(Lib.join (ss.map (·.data.toList)) sep.data.toList).toArray⟩) ∧ Below w.heap.size w w' := by
  have hl : ss.length = n := by simpa using hown.1
  subst hl
  have hcells : ∀ (j : Nat) x, ss[j]? = some x → w.cell? ⟨g, 0 + j, none⟩ = some (.string x) := fun j x hx => by
    have := hown.cells (g := g) rfl j (.string x) (by rw [List.getElem?_map, hx]; rfl)
    rw [← this]
    congr 1
    unfold Addr.add
    split <;> simp_all
  have H := hide (Tryd.strings_Join g 0 c ss sep w hcells (hown.lt g rfl).2 (by omega) hc (by omega))
  clear hcells hown hlen hn hc
  go_enter Tryd.func34, Tryd.ntmps34
  go_wp2_with fail
  refine (unhide H).mono ?_
  rintro e w' ⟨rfl, hb⟩
  clear H
  go_wp2
  go_ret
  exact ⟨rfl, hb⟩
theorem own_cap {w : World} {base n c g : Nat} {xs : List Value} {e : TypeId} (h : w.ownsRow base e 1 (.slice (some ⟨g, 0, none⟩) n c) n xs) : n ≤ c := by
  rcases h.2 with ⟨h0, _⟩ | ⟨g', cap, cur, hv, _, _, hnc, _⟩
  · cases h0
  · injection hv with _ _ h3
    omega
theorem own_head {w : World} {base n : Nat} {v : Value} {xs : List Value} {e : TypeId} (h : w.ownsRow base e 1 v n xs) (hn : 0 < n) : ∃ g c, v = .slice (some ⟨g, 0, none⟩) n c := by
  rcases h.2 with ⟨_, h0⟩ | ⟨g, cap, cur, rfl, _⟩
  · omega
  · exact ⟨g, cap, rfl⟩
end Go.Proofs.YtichenjbkclljaaDoor


/-
  impl.joints (a bit for each joined number): jointsOf, has, fit; impl.IsNear, by their contracts.
-/

namespace Go.Proofs.YtichenjbkclljaaDoor
set_option maxRecDepth 100000
open Go.RowKit

/-- A bit for each number. -/
def jB (J : List Int) : Nat := J.foldl (fun a j => a ||| 2 ^ j.toNat) 0
theorem jB_nil : jB [] = 0 := rfl
theorem jB_snoc (J : List Int) (x : Int) : jB (J ++ [x]) = jB J ||| 2 ^ x.toNat := by unfold jB; rw [List.foldl_append]; rfl
theorem jB_step {J : List Int} {k : Nat} {x : Int} (hx : J[k]? = some x) : jB (J.take (k + 1)) = jB (J.take k) ||| 2 ^ x.toNat := by rw [take_snoc_i hx, jB_snoc]
theorem jB_lt_aux : ∀ (J : List Int) (a : Nat), a < 512 → (∀ x ∈ J, 0 ≤ x ∧ x ≤ 8) → J.foldl (fun a j => a ||| 2 ^ j.toNat) a < 512
  | [], a, ha, _ => ha
  | x :: J, a, ha, h => by
    rw [List.foldl_cons]
    refine jB_lt_aux J _ ?_ fun y hy => h y (List.mem_cons_of_mem _ hy)
    have hx := h x (List.mem_cons_self ..)
    have h2 : 2 ^ x.toNat < 2 ^ 9 := Nat.pow_lt_pow_right (by decide) (by omega)
    exact Nat.or_lt_two_pow (n := 9) ha h2
theorem jB_lt {J : List Int} (h : ∀ x ∈ J, 0 ≤ x ∧ x ≤ 8) : jB J < 512 := jB_lt_aux J 0 (by decide) h
theorem jB_test_aux (i : Nat) : ∀ (J : List Int) (a : Nat), (∀ x ∈ J, 0 ≤ x) → (J.foldl (fun a j => a ||| 2 ^ j.toNat) a).testBit i = (a.testBit i || decide ((i : Int) ∈ J))
  | [], a, _ => by simp
  | x :: J, a, h => by
    have hx := h x (List.mem_cons_self ..)
    rw [List.foldl_cons, jB_test_aux i J _ fun y hy => h y (List.mem_cons_of_mem _ hy), Nat.testBit_or, Nat.testBit_two_pow, Bool.or_assoc]
    congr 1
    by_cases e : x.toNat = i
    · have e2 : (i : Int) = x := by omega
      simp [e, e2]
    · have e2 : ¬ (i : Int) = x := by omega
      simp [e, e2]
theorem jB_test {J : List Int} (h : ∀ x ∈ J, 0 ≤ x) (i : Nat) : (jB J).testBit i = decide ((i : Int) ∈ J) := by
  unfold jB; rw [jB_test_aux i J 0 h]; simp
theorem bit_testU (s k : Nat) (hs : s < 512) : (bits .and .u64 ((s : Int) / 2 ^ k) 1 == 1) = s.testBit k := by
  have h0 : (s : Int) / 2 ^ k = ((s / 2 ^ k : Nat) : Int) := by push_cast; rfl
  have hle : s / 2 ^ k ≤ s := Nat.div_le_self _ _
  have h1 : bits .and .u64 ((s / 2 ^ k : Nat) : Int) 1 = ((s / 2 ^ k % 2 : Nat) : Int) := by
    have := bits_mask .u64 63 (by decide) (fun n h0 h1 => by rw [IntKind.wrap_u64]; omega) 1 (by decide) ((s / 2 ^ k : Nat) : Int) (Int.natCast_nonneg _) (Int.lt_of_le_of_lt (Int.ofNat_le.2 hle) (by omega))
    simpa using this
  rw [h0, h1, Nat.testBit_eq_decide_div_mod_eq]
  by_cases h : s / 2 ^ k % 2 = 1
  · rw [h]; rfl
  · have h2 : s / 2 ^ k % 2 = 0 := by omega
    rw [h2]; rfl
set_option maxHeartbeats 800000 in
theorem jots_any (A : Option Addr) (n c B : Nat) (J : List Int) (w : World) (h : Arg w B A n c J) (hJ : ∀ x ∈ J, 0 ≤ x ∧ x ≤ 8) :
    Calls Tryd.prog 28 #[.slice A n c] w fun e w' => e = .returned (.int .u64 (jB J : Nat)) ∧ Drew w w' := by
  have hl := h.len
  have hr := h.reads
  have hm := h.le
  have HJ := hide (fun k x (hx : J[k]? = some x) => hJ x (List.mem_of_getElem? hx))
  have HT := hide (fun k => jB_lt (J := J.take k) fun x hx => hJ x (List.mem_of_mem_take hx))
  have HL := hide hl
  clear h hl hJ
  go_enter Tryd.func28, Tryd.ntmps28
  go_wp2
  go_loopw [3, 8] (fun b i wr => ∃ k : Nat, k ≤ n ∧ i = .int .i64 k ∧ b = .int .u64 (jB (J.take k) : Nat) ∧ Drew w wr) (fun _ i _ => n - (intOf i).toNat)
  case atStart => exact ⟨0, Nat.zero_le _, rfl, rfl, Drew.refl _⟩
  case round =>
    obtain ⟨k, hk, rfl, rfl, hd⟩ := hrel
    by_cases hlt : k < n
    · obtain ⟨ad, u, rfl, _, hu, hc⟩ := (hr.ofDrew hd).at_ hlt
      obtain ⟨x, hx, rfl⟩ := i64_at hu
      obtain ⟨hx0, hx8⟩ := unhide HJ k x hx
      have hlt1 := unhide HT k
      have hstep := jB_step hx
      obtain ⟨j, rfl⟩ : ∃ j : Nat, x = (j : Int) := ⟨x.toNat, by omega⟩
      rw [Int.toNat_natCast] at hstep
      have hp : 2 ^ j < 2 ^ 9 := Nat.pow_lt_pow_right (by decide) (by omega)
      have hor := bits_or_u64_nat (jB (J.take k)) (2 ^ j) (by omega) (by omega)
      rw [← hstep] at hor
      clear hu hx hstep
      have HD := hide hd
      have HO := hide hor
      have hw2 : IntKind.u64.wrap (2 ^ j) = ((2 ^ j : Nat) : Int) := by
        have e : ((2 : Int) ^ j) = ((2 ^ j : Nat) : Int) := by push_cast; rfl
        rw [e, IntKind.wrap_u64]
        generalize 2 ^ j = P at hp
        omega
      have HW := hide hw2
      clear hd hor hw2
      go_wp2
      go_roundw
      case rel => exact ⟨k + 1, by omega, by go_num, by rw [unhide HW, unhide HO], unhide HD⟩
      case measure => simp [intOf]; omega
    · obtain rfl : n = k := by omega
      rw [List.take_of_length_le (Nat.le_of_eq (unhide HL))]
      go_wp2
      go_ret
      exact ⟨rfl, hd⟩
theorem jhas_any (s i : Nat) (hs : s < 512) (hi : i ≤ 62) (w : World) :
    Calls Tryd.prog 52 #[.int .u64 (s : Nat), .int .i64 i] w fun e w' => e = .returned (.bool (s.testBit i)) ∧ w' = w := by
  have H := hide (bit_testU s i hs)
  go_enter Tryd.func52, Tryd.ntmps52
  go_wp2
  go_ret
  exact ⟨ret_bool (unhide H), rfl⟩
theorem jhas_in {J : List Int} (hJ : ∀ x ∈ J, 0 ≤ x ∧ x ≤ 8) (i : Int) (hi : 0 ≤ i ∧ i ≤ 62) (b : Bool) (hb : decide (i ∈ J) = b) (w : World) :
    Calls Tryd.prog 52 #[.int .u64 (jB J : Nat), .int .i64 i] w fun e w' => e = .returned (.bool b) ∧ w' = w := by
  obtain ⟨k, rfl⟩ : ∃ k : Nat, i = (k : Int) := ⟨i.toNat, by omega⟩
  rw [← hb, ← jB_test (fun x hx => (hJ x hx).1)]
  exact jhas_any (jB J) k (jB_lt hJ) (by omega) w
set_option maxHeartbeats 800000 in
theorem jfit_any (A : Option Addr) (n c B : Nat) (pl J : List Int) (w : World) (h : Arg w B A n c pl) (hJ : PlOK (n - 1) J) (hpl : ∀ x ∈ pl, 1 ≤ x ∧ x ≤ 8) (hn : n ≤ 8) :
    Calls Tryd.prog 30 #[.int .u64 (jB J : Nat), .slice A n c] w fun e w' => e = .returned (.bool (fitJ J pl)) ∧ Drew w w' := by
  have hl := h.len
  have hr := h.reads
  obtain ⟨b, hb⟩ : ∃ b, fitJ J pl = b := ⟨_, rfl⟩
  rw [hb]
  have HB := hide hb
  have hJ8 : ∀ x ∈ J, 0 ≤ x ∧ x ≤ 8 := fun x hx => by have := hJ.1 x hx; omega
  have HJ := hide hJ
  have HH := hide (fun (i : Int) (hi : 0 ≤ i ∧ i ≤ 62) b hb (w' : World) => jhas_in hJ8 i hi b hb w')
  have HPL := hide (fun k x (hx : pl[k]? = some x) => hpl x (List.mem_of_getElem? hx))
  have HL := hide hl
  clear h hJ hJ8 hpl hl hb
  go_enter Tryd.func30, Tryd.ntmps30
  go_wp2
  go_loopw [5] (fun i wr => ∃ k : Nat, (k ≤ n ∨ k = 1) ∧ 1 ≤ k ∧ i = .int .i64 k ∧ Drew w wr ∧ Hid (∀ j ∈ J, j < (k : Int) → at0 pl j.toNat = at0 pl (j.toNat - 1) + 1)) (fun i _ => n - (intOf i).toNat)
  case atStart => exact ⟨1, .inr rfl, Nat.le_refl _, rfl, Drew.refl _, hide fun j hj hlt => by have := (unhide HJ).1 j hj; omega⟩
  case round =>
    obtain ⟨k, hk, hk1, rfl, hd, hs⟩ := hrel
    by_cases hlt : k < n
    · obtain ⟨k2, rfl⟩ : ∃ k2, k = k2 + 1 := ⟨k - 1, by omega⟩
      obtain ⟨ad1, u1, rfl, _, hu1, hc1⟩ := (hr.ofDrew hd).at_ hlt
      obtain ⟨ad2, u2, hA2, _, hu2, hc2⟩ := (hr.ofDrew hd).at_ (show k2 < n by omega)
      obtain rfl : ad1 = ad2 := by injection hA2
      obtain ⟨y, hy, rfl⟩ := i64_at hu1
      obtain ⟨z, hz, rfl⟩ := i64_at hu2
      have hzr := unhide HPL _ z hz
      have ey : at0 pl (k2 + 1) = y := at0_of hy
      have ez : at0 pl k2 = z := at0_of hz
      have hw2 : IntKind.i64.wrap (z + 1) = z + 1 := by rw [IntKind.wrap_i64]; omega
      have hc3 : wr.cell? ⟨ad1.block, ad1.off + (k2 + 1), none⟩ = some (.int .i64 y) := by rw [← show ad1.add (k2 + 1) = ⟨ad1.block, ad1.off + (k2 + 1), none⟩ by unfold Addr.add; rw [if_neg (by omega)]]; exact hc1
      have hwk : IntKind.i64.wrap ((k2 : Int) + 1 - 1) = (k2 : Int) := by rw [IntKind.wrap_i64]; omega
      have hwk' : IntKind.i64.wrap (k2 : Int) = (k2 : Int) := by rw [IntKind.wrap_i64]; omega
      have hb2 : (k2 : Int) < (n : Int) := by omega
      have hb3 : (k2 : Int) + 1 < (n : Int) := by omega
      have hb4 : (0 : Int) ≤ (k2 : Int) := by omega
      have HD := hide hd
      obtain ⟨bh, hbh⟩ : ∃ bh, decide ((k2 : Int) + 1 ∈ J) = bh := ⟨_, rfl⟩
      have HC := hide (fun w' => unhide HH ((k2 : Int) + 1) (by omega) bh hbh w')
      cases bh with
      | false =>
        have hnot : ¬ (k2 : Int) + 1 ∈ J := of_decide_eq_false hbh
        have hnext := hide (show ∀ j ∈ J, j < ((k2 + 1 + 1 : Nat) : Int) → at0 pl j.toNat = at0 pl (j.toNat - 1) + 1 from fun j hj hlt => by
          by_cases e : j = (k2 : Int) + 1
          · exact absurd (e ▸ hj) hnot
          · exact unhide hs j hj (by omega))
        clear hnot hbh hs ey ez hu1 hu2 hy hz hr hd HH hzr
        go_wp2
        go_quiet ((go_at_call 52; exact Calls.quiet_of_same (unhide HC _)))
        go_wp2
        go_roundw
        case rel => exact ⟨k2 + 1 + 1, .inl (by omega), by omega, by go_num, (unhide HD).more _, hnext⟩
        case measure => simp [intOf]; omega
      | true =>
        have hin : (k2 : Int) + 1 ∈ J := of_decide_eq_true hbh
        by_cases hyz : y = z + 1
        · have hnext := hide (show ∀ j ∈ J, j < ((k2 + 1 + 1 : Nat) : Int) → at0 pl j.toNat = at0 pl (j.toNat - 1) + 1 from fun j hj hlt => by
            by_cases e : j = (k2 : Int) + 1
            · subst e; rw [show ((k2 : Int) + 1).toNat = k2 + 1 by omega, Nat.add_sub_cancel, ey, ez]; exact hyz
            · exact unhide hs j hj (by omega))
          subst hyz
          clear hin hbh hs ey ez hu1 hu2 hy hz hr hd HH hzr
          go_wp2
          go_quiet ((go_at_call 52; exact Calls.quiet_of_same (unhide HC _)))
          go_wp2
          go_roundw
          case rel => exact ⟨k2 + 1 + 1, .inl (by omega), by omega, by go_num, (unhide HD).more _, hnext⟩
          case measure => simp [intOf]; omega
        · obtain rfl : b = false := (unhide HB).symm.trans (by
            cases hf : fitJ J pl with
            | false => rfl
            | true => exact absurd (by have := fitJ_iff.1 hf _ hin; rwa [show ((k2 : Int) + 1).toNat = k2 + 1 by omega, Nat.add_sub_cancel, ey, ez] at this) hyz)
          have hne : (y == z + 1) = false := by simpa using hyz
          clear hin hbh hs ey ez hu1 hu2 hy hz hr hd HH hzr HB hyz
          go_wp2
          go_quiet ((go_at_call 52; exact Calls.quiet_of_same (unhide HC _)))
          go_wp2
          go_ret
          exact ⟨rfl, (unhide HD).more _⟩
    · obtain rfl : b = true := (unhide HB).symm.trans (fitJ_iff.2 fun j hj => unhide hs j hj (by have := (unhide HJ).1 j hj; omega))
      clear HB hs HH
      go_wp2
      go_ret
      exact ⟨rfl, hd⟩
set_option maxHeartbeats 1600000 in
theorem inear_any (A P : Option Addr) (n c B m d B' : Nat) (q J : List Int) (w : World) (h : Arg w B A n c q) (h' : Arg w B' P m d J) :
    Calls Tryd.prog 17 #[.agg #[.slice A n c, .slice P m d]] w (GivesB w (nearOK q J)) := by
  have hl := h.len
  have hl' := h'.len
  have hm := h'.le
  have hn := h.le
  obtain ⟨w0, hw0⟩ : ∃ w0, w0 = w.alloc (.cells #[.slice A n c, .slice P m d] 26) := ⟨_, rfl⟩
  have b0 : Below w.heap.size w w0 := by rw [hw0]; exact (Below.refl _ w).alloc (Nat.le_refl _) _
  have g0 : Whole w0 w.heap.size 26 #[.slice A n c, .slice P m d] := by rw [hw0]; exact Whole.new _ _ _
  have hr' := (h'.below b0).reads
  obtain ⟨bp, hbp⟩ : ∃ b, isP q = b := ⟨_, rfl⟩
  have q0 := g0.cell 0
  simp only [List.getElem?_toArray, List.getElem?_cons_zero] at q0
  have H1 := hide (iisperm_any A n c B q bp hbp w0 (h.below b0).reads (h.below b0).under h.le h.small)
  cases bp with
  | false =>
    rw [show nearOK q J = false from by unfold nearOK; rw [hbp]; rfl]
    have HW := hide hw0
    clear h h' hl hl' hbp g0 hr'
    rw [hw0] at q0
    clear hw0
    go_enter Tryd.func17, Tryd.ntmps17
    go_wp2_with fail
    rw [← unhide HW]
    refine (unhide H1).mono ?_
    rintro e w1 ⟨rfl, d1⟩
    have d2 := below_after b0 d1
    clear H1 HW d1 b0
    go_wp2
    go_ret
    exact ⟨rfl, d2⟩
  | true =>
    obtain ⟨b, hb⟩ : ∃ b, nearOK q J = b := ⟨_, rfl⟩
    rw [hb]
    have HB := hide hb
    have HBP := hide hbp
    have HL := hide (⟨hl, hl'⟩ : q.length = n ∧ J.length = m)
    have HJS := hide (fun k x (hx : J[k]? = some x) => h'.small x (List.mem_of_getElem? hx))
    have HW := hide hw0
    have HU := hide (⟨h'.under, b0.size⟩ : B' ≤ w.heap.size ∧ w.heap.size ≤ w0.heap.size)
    have G0 := hide g0
    clear h h' hl hl' hbp g0 hb
    rw [hw0] at q0
    clear hw0
    go_enter Tryd.func17, Tryd.ntmps17
    go_wp2_with fail
    rw [← unhide HW]
    refine (unhide H1).mono ?_
    rintro e w1 ⟨rfl, d1⟩
    have d2 := below_after b0 d1
    have g1 := (unhide G0).below d1 (by have := (unhide G0).lt; omega)
    have c0' := g1.cell 0
    have c1' := g1.cell 1
    simp only [List.getElem?_toArray, List.getElem?_cons_zero, List.getElem?_cons_succ] at c0' c1'
    have hr1 := hr'.below (d1.mono (by have := unhide HU; omega))
    clear H1 HW d1 b0 q0 hr' G0 g1
    go_wp2
    go_loopw [3, 13] (fun l i wr => ∃ k : Nat, k ≤ m ∧ i = .int .i64 k ∧ l = .int .i64 (lastP (J.take k) : Nat) ∧ Drew w1 wr ∧ Hid (PlOK (q.length - 1) (J.take k))) (fun _ i _ => m - (intOf i).toNat)
    case atStart => exact ⟨0, Nat.zero_le _, rfl, by rw [List.take_zero, lastP_nil]; rfl, Drew.refl _, hide (PlOK.nil _)⟩
    case round =>
      obtain ⟨k, hk, rfl, rfl, hd, hs⟩ := hrel
      have c0 := (hd.cell ⟨w.heap.size, 0, none⟩).trans c0'
      have c1 := (hd.cell ⟨w.heap.size, 1, none⟩).trans c1'
      by_cases hlt : k < m
      · obtain ⟨ad, u, rfl, _, hu, hc⟩ := (hr1.ofDrew hd).at_ hlt
        obtain ⟨x, hx, rfl⟩ := i64_at hu
        have HD := hide hd
        have hstep := plok_step (n := q.length - 1) hx
        have hlq := (unhide HL).1
        have hlast := take_last hx
        obtain ⟨l, hl⟩ : ∃ l, lastP (J.take k) = l := ⟨_, rfl⟩
        rw [hl] at hstep ⊢
        by_cases hno : x ≤ (l : Int)
        · obtain rfl : b = false := (unhide HB).symm.trans (near_false (plok_no (k := k + 1) fun h2 => by
            have h3 := (hstep.1 h2).2.1
            omega))
          clear hx hu hs hr1 hd HB hstep c0' c1' hlq hlast hl
          go_wp2
          go_ret
          exact ⟨rfl, d2.trans ((unhide HD).below _)⟩
        · by_cases hge : (n : Int) ≤ x
          · obtain rfl : b = false := (unhide HB).symm.trans (near_false (plok_no (k := k + 1) fun h2 => by
              have h3 := (hstep.1 h2).2.2
              omega))
            clear hx hu hs hr1 hd HB hstep c0' c1' hlq hlast hl
            go_wp2
            go_ret
            exact ⟨rfl, d2.trans ((unhide HD).below _)⟩
          · have hnext := hide (hstep.2 ⟨unhide hs, by omega, by omega⟩)
            have hx' : x = ((x.toNat : Nat) : Int) := by omega
            have HX := hide (show Value.int .i64 x = .int .i64 (lastP (J.take (k + 1)) : Nat) by rw [hlast, ← hx'])
            clear hx hu hs hr1 hd hstep c0' c1' hlq hlast hl hx'
            go_wp2
            go_roundw
            case rel => exact ⟨k + 1, by omega, by go_num, unhide HX, unhide HD, hnext⟩
            case measure => simp [intOf]; omega
      · obtain rfl : m = k := by omega
        obtain rfl : true = b := (near_true (unhide HBP) (by have h := unhide hs; rwa [List.take_of_length_le (by rw [(unhide HL).2]; exact Nat.le_refl _)] at h)).symm.trans (unhide HB)
        clear HB hs hr1
        go_wp2
        go_ret
        exact ⟨rfl, d2.trans (hd.below _)⟩
end Go.Proofs.YtichenjbkclljaaDoor


/-
  impl.NearText, by its contract.
-/

namespace Go.Proofs.YtichenjbkclljaaDoor
set_option maxRecDepth 100000
open Go.RowKit

theorem u8s_u8c (L : List UInt8) : u8s L = u8c (L.map fun b => (b.toNat : Int)) := by unfold u8s u8c; rw [List.map_map]; rfl
theorem u8_back (L : List UInt8) : (L.map fun b => (b.toNat : Int)).map (fun n => UInt8.ofNat n.toNat) = L := by
  rw [List.map_map]
  conv => rhs; rw [← List.map_id L]
  refine List.map_congr_left fun b _ => ?_
  simp
theorem u8_row {P : Program} {src dst e : TypeId} (hs : P.underlying src = some (.slice e)) (he : P.underlying e = some (.int .u8)) (hd : P.underlying dst = some .string) (w : World) (B g n c : Nat) (t : TypeId) (L : List UInt8)
    (hown : w.ownsRow B t 1 (.slice (some ⟨g, 0, none⟩) n c) n (u8s L)) :
    (convert src dst (.slice (some ⟨g, 0, none⟩) n c)).run P w = .ok (.string ⟨L.toArray⟩) w := by
  have := cv_row hs he hd w B g n c t (L.map fun b => (b.toNat : Int)) (by rw [← u8s_u8c]; exact hown)
  rwa [u8_back] at this
theorem u8s_snoc (L : List UInt8) (b : UInt8) : u8s L ++ [Value.int .u8 b.toNat] = u8s (L ++ [b]) := by unfold u8s; simp
theorem bytes_reads (w : World) (e : TypeId) (L : List UInt8) : Reads (Lib.bytesWorld w e ⟨L.toArray⟩) (w.heap.size + 1) (some ⟨w.heap.size, 0, none⟩) L.length (u8s L) := by
  refine ⟨by simp [u8s], fun _ => ⟨_, rfl, Nat.lt_succ_self _, fun j u hu => ?_⟩⟩
  obtain ⟨b, hb, rfl⟩ := u8_at hu
  have hj : j < L.length := (List.getElem?_eq_some_iff.1 hb).1
  have := Lib.bytesWorld_cell w e ⟨L.toArray⟩ j (by simpa [ByteArray.size] using hj)
  rw [show (⟨w.heap.size, 0, none⟩ : Addr).add j = ⟨w.heap.size, j, none⟩ by unfold Addr.add; split <;> simp_all, this]
  simp [List.getD_eq_getElem?_getD, hb]
set_option maxHeartbeats 1600000 in
theorem ntxt_yes (A P : Option Addr) (n c B m d B' : Nat) (q J : List Int) (w : World) (h : Arg w B A n c q) (h' : Arg w B' P m d J) (hok : nearOK q J = true) :
    Calls Tryd.prog 19 #[.agg #[.slice A n c, .slice P m d]] w (GivesS w (ntext q J)) := by
  obtain ⟨hq, hJ⟩ := nearOK_iff.1 hok
  obtain ⟨i0, hi, hz0, hz1, hz2⟩ := info_parts byteInfo
  have hn8 : n ≤ 8 := by have := isP_le hq; have := h.len; omega
  have hq8 := isP_le hq
  have hJ8 : ∀ x ∈ J, 0 ≤ x ∧ x ≤ 8 := fun x hx => by have := hJ.1 x hx; omega
  obtain ⟨w0, hw0⟩ : ∃ w0, w0 = w.alloc (.cells #[.slice A n c, .slice P m d] 26) := ⟨_, rfl⟩
  have b0 : Below w.heap.size w w0 := by rw [hw0]; exact (Below.refl _ w).alloc (Nat.le_refl _) _
  have g0 : Whole w0 w.heap.size 26 #[.slice A n c, .slice P m d] := by rw [hw0]; exact Whole.new _ _ _
  have H1 := hide (inear_any A P n c B m d B' q J w0 (h.below b0) (h'.below b0))
  have H2 := hide (show ∀ w2, Below w.heap.size w w2 → _ from fun w2 d2 => jots_any P m d B' J w2 (h'.below d2) hJ8)
  have H3 := hide (show ∀ w2, Below w.heap.size w w2 → _ from fun w2 d2 => itext_any A n c B q w2 (h.below d2))
  have HH := hide (fun (i : Int) (hi : 0 ≤ i ∧ i ≤ 62) b hb (w' : World) => jhas_in hJ8 i hi b hb w')
  obtain ⟨L, hL⟩ : ∃ L, L = ptextL q := ⟨_, rfl⟩
  obtain ⟨hL1, hL8⟩ := ptextL_len hq
  have HG := gapB_text hok
  rw [ptext_list hq] at H3
  rw [hok] at H1
  rw [← hL] at H3 HG hL1 hL8
  have x0 := g0.cell 0
  have x1 := g0.cell 1
  simp only [List.getElem?_toArray, List.getElem?_cons_zero, List.getElem?_cons_succ] at x0 x1
  have HW0 := hide hw0
  have HGG := hide HG
  clear h h' hok hq hJ hJ8 hL HG
  rw [hw0] at x0 x1
  clear hw0
  go_enter Tryd.func19, Tryd.ntmps19
  go_wp2_with fail
  rw [← unhide HW0]
  refine (unhide H1).mono ?_
  rintro e w1 ⟨rfl, d1⟩
  have d1' := below_after b0 d1
  have g1 := g0.below d1 g0.lt
  have x0 := g1.cell 0
  have x1 := g1.cell 1
  simp only [List.getElem?_toArray, List.getElem?_cons_zero, List.getElem?_cons_succ] at x0 x1
  have HX := hide (unhide H2 w1 d1')
  clear H1 H2 g0 b0 d1 HW0
  go_wp2_with fail
  refine (unhide HX).mono ?_
  rintro e w2 ⟨rfl, d2⟩
  have d2' := d1'.trans (d2.below _)
  have g2 : Whole w2 w.heap.size 26 #[.slice A n c, .slice P m d] := g1.below (d2.below (w.heap.size + 1)) (Nat.lt_succ_self _)
  have y0 := g2.cell 0
  simp only [List.getElem?_toArray, List.getElem?_cons_zero] at y0
  have HY := hide (unhide H3 w2 d2')
  clear HX H3 d1' d2 g1 x0 x1
  go_wp2_with fail
  refine (unhide HY).mono ?_
  rintro e w3 ⟨rfl, d3⟩
  have d3' := below_after d2' d3
  have hcv := Lib.run_convert_string_bytes (P := Tryd.prog) w3 9 22 5 ⟨L.toArray⟩ (u := .string) Tryd.underlying9 Tryd.underlying22 Tryd.underlying5
  have hbw := Lib.bytesWorld_below w3 5 ⟨L.toArray⟩
  have hrd := bytes_reads w3 5 L
  have hsz := Lib.bytesWorld_size w3 5 ⟨L.toArray⟩
  have hsl : (ByteArray.mk L.toArray).size = L.length := by simp [ByteArray.size]
  rw [hsl] at hcv
  obtain ⟨cap, hcap⟩ : ∃ cap, grownCap w3 L.length 0 5 = cap := ⟨_, rfl⟩
  rw [hcap] at hcv
  obtain ⟨w4, hw4⟩ : ∃ w4, w4 = Lib.bytesWorld w3 5 ⟨L.toArray⟩ := ⟨_, rfl⟩
  rw [← hw4] at hcv hbw hrd hsz
  have d4 := below_after d3' hbw
  obtain ⟨gd, hgd⟩ : ∃ g, g = w3.heap.size := ⟨_, rfl⟩
  rw [← hgd] at hcv hrd hsz
  have HR := hide (⟨hrd, hsz, d4⟩ : Reads w4 (gd + 1) (some ⟨gd, 0, none⟩) L.length (u8s L) ∧ w4.heap.size = gd + 1 ∧ Below w.heap.size w w4)
  clear HY d2' y0 g2 d3 d3' hbw hsl hw4 hgd hcap hrd hsz d4
  go_wp2
  obtain ⟨hrd, hsz, d4⟩ := unhide HR
  have hgw := d4.size
  obtain ⟨t, ht⟩ : ∃ t : Nat, L.length = t := ⟨_, rfl⟩
  rw [ht] at hrd hL1 hL8
  rw [ht]
  have HT := hide ht
  clear hcv ht
  go_loopw [4, 18] (fun v i wr => ∃ (k r : Nat), k ≤ t ∧ i = .int .i64 k ∧ r = (gapB J L k).length ∧ Below (gd + 1) w4 wr ∧ wr.ownsRow (gd + 1) 5 1 v r (u8s (gapB J L k))) (fun _ i _ => t - (intOf i).toNat)
  case atStart => exact ⟨0, 0, Nat.zero_le _, rfl, rfl, Below.refl _ _, World.ownsRow_nil _ _ _ _⟩
  case round =>
    obtain ⟨k, r, hk, rfl, hr, hb, hown⟩ := hrel
    have hrl : r ≤ 16 := by have := gapB_len J L k; omega
    have hbs : gd + 1 ≤ wr.heap.size := by have := hb.size; omega
    by_cases hlt : k < t
    · obtain ⟨ad, u, hA, _, hu, hc⟩ := (hrd.below hb).at_ hlt
      obtain ⟨b, hbk, rfl⟩ := u8_at hu
      obtain rfl : ad = ⟨gd, 0, none⟩ := by injection hA with h; exact h.symm
      have hc3 : wr.cell? ⟨gd, k, none⟩ = some (.int .u8 b.toNat) := by rw [← show (⟨gd, 0, none⟩ : Addr).add k = ⟨gd, k, none⟩ by unfold Addr.add; split <;> simp_all]; exact hc
      have HA := hide hA
      clear hA hu hc
      by_cases hins : 0 < k ∧ ¬ (k : Int) ∈ J
      · have hst := gapB_yes hbk hins
        have HC := hide (fun w' => unhide HH (k : Int) (by omega) false (decide_eq_false hins.2) w')
        have hk0 : (0 : Int) < (k : Int) := by have := hins.1; omega
        have HE := hide (show u8s (gapB J L (k + 1)) = u8s (gapB J L k) ++ [Value.int .u8 95, Value.int .u8 b.toNat] by rw [hst]; unfold u8s; simp)
        have hr2 : r + 1 + 1 = (gapB J L (k + 1)).length := by rw [hst, hr]; simp
        have HR2 := hide hr2
        clear hst hins hbk hr hr2 hrd
        go_wp2_with fail
        refine (unhide HC _).mono ?_
        rintro e w5 ⟨rfl, hw5⟩
        subst hw5
        clear HC
        go_wp2_with (at_builtin; refine wpList_append_one rfl (.tmp 31) (.tmp 32) 22 rfl (gd + 1) 5 i0 (.int .u8 0) 1 Tryd.underlying22 hi hz0 hz1 hz2 rfl w5 w5 _ r (u8s (gapB J L k)) rfl hown (.int .u8 95) rfl rfl rfl (by omega) (by unfold maxLen; omega) (Below.refl _ _) hbs ?_)
        intro v1 w6 hown1 hb6 hg6
        have hbs2 : gd + 1 ≤ w6.heap.size := by have := hb6.size; omega
        have hb7 := hb.trans hb6
        clear hown hb hb6 hg6 hbs hc3
        go_wp2_with (at_builtin; refine wpList_append_one rfl (.tmp 34) (.tmp 36) 22 rfl (gd + 1) 5 i0 (.int .u8 0) 1 Tryd.underlying22 hi hz0 hz1 hz2 rfl w6 w6 _ (r + 1) _ rfl hown1 (.int .u8 b.toNat) rfl rfl rfl (by omega) (by unfold maxLen; omega) (Below.refl _ _) hbs2 ?_)
        intro v2 w8 hown2 hb8 hg8
        have hb9 := hb7.trans hb8
        rw [← unhide HE] at hown2
        clear hown1 hb7 hb8 hg8 HE
        go_wp2
        go_roundw
        case rel => exact ⟨k + 1, r + 1 + 1, by omega, by go_num, unhide HR2, hb9, hown2⟩
        case measure => simp [intOf]; omega
      · have hst := gapB_no hbk hins
        have HE := hide (show u8s (gapB J L (k + 1)) = u8s (gapB J L k) ++ [Value.int .u8 b.toNat] by rw [hst]; unfold u8s; simp)
        have hr2 : r + 1 = (gapB J L (k + 1)).length := by rw [hst, hr]; simp
        have HR2 := hide hr2
        by_cases h0 : k = 0
        · subst h0
          clear hst hins hbk hr hr2 hrd
          go_wp2_with (at_builtin; refine wpList_append_one rfl (.tmp 34) (.tmp 36) 22 rfl (gd + 1) 5 i0 (.int .u8 0) 1 Tryd.underlying22 hi hz0 hz1 hz2 rfl wr wr _ r _ rfl hown (.int .u8 b.toNat) rfl rfl rfl (by omega) (by unfold maxLen; omega) (Below.refl _ _) hbs ?_)
          intro v2 w8 hown2 hb8 hg8
          have hb9 := hb.trans hb8
          rw [← unhide HE] at hown2
          clear hown hb hb8 hg8 HE
          go_wp2
          go_roundw
          case rel => exact ⟨0 + 1, r + 1, by omega, by go_num, unhide HR2, hb9, hown2⟩
          case measure => simp [intOf]; omega
        · have hin : (k : Int) ∈ J := by
            by_cases hi : (k : Int) ∈ J
            · exact hi
            · exact absurd ⟨by omega, hi⟩ hins
          have hk0 : (0 : Int) < (k : Int) := by omega
          have HC := hide (fun w' => unhide HH (k : Int) (by omega) true (decide_eq_true hin) w')
          clear hst hins hbk hr hr2 hrd hin h0
          go_wp2_with fail
          refine (unhide HC _).mono ?_
          rintro e w5 ⟨rfl, hw5⟩
          subst hw5
          clear HC
          go_wp2_with (at_builtin; refine wpList_append_one rfl (.tmp 34) (.tmp 36) 22 rfl (gd + 1) 5 i0 (.int .u8 0) 1 Tryd.underlying22 hi hz0 hz1 hz2 rfl w5 w5 _ r _ rfl hown (.int .u8 b.toNat) rfl rfl rfl (by omega) (by unfold maxLen; omega) (Below.refl _ _) hbs ?_)
          intro v2 w8 hown2 hb8 hg8
          have hb9 := hb.trans hb8
          rw [← unhide HE] at hown2
          clear hown hb hb8 hg8 HE
          go_wp2
          go_roundw
          case rel => exact ⟨k + 1, r + 1, by omega, by go_num, unhide HR2, hb9, hown2⟩
          case measure => simp [intOf]; omega
    · obtain rfl : t = k := by omega
      have hr1 : 0 < r := by
        have : (gapB J L (t - 1 + 1)).length ≠ 0 := by rw [gapB]; simp
        rw [show t - 1 + 1 = t by omega] at this
        omega
      have hv : ∃ g c, u4 = Value.slice (some ⟨g, 0, none⟩) r c := by
        rcases hown.2 with ⟨_, h0⟩ | ⟨g, cap, cur, hv, _⟩
        · omega
        · exact ⟨g, cap, hv⟩
      obtain ⟨g, c9, rfl⟩ := hv
      have hcv := u8_row (P := Tryd.prog) Tryd.underlying22 Tryd.underlying5 Tryd.underlying9 wr (gd + 1) g r c9 5 _ hown
      have hgg := unhide HGG
      rw [unhide HT] at hgg
      rw [hgg] at hcv
      have hend := d4.trans (hb.mono (by omega))
      clear hown hb hrd hgg HGG hr hr1 hrl
      go_wp2
      go_ret
      exact ⟨rfl, hend⟩
set_option maxHeartbeats 800000 in
theorem intxt_any (A P : Option Addr) (n c B m d B' : Nat) (q J : List Int) (w : World) (h : Arg w B A n c q) (h' : Arg w B' P m d J) :
    Calls Tryd.prog 19 #[.agg #[.slice A n c, .slice P m d]] w (GivesS w (ntext q J)) := by
  obtain ⟨b, hok⟩ : ∃ b, nearOK q J = b := ⟨_, rfl⟩
  cases b with
  | true => exact ntxt_yes A P n c B m d B' q J w h h' hok
  | false =>
    obtain ⟨w0, hw0⟩ : ∃ w0, w0 = w.alloc (.cells #[.slice A n c, .slice P m d] 26) := ⟨_, rfl⟩
    have b0 : Below w.heap.size w w0 := by rw [hw0]; exact (Below.refl _ w).alloc (Nat.le_refl _) _
    have g0 : Whole w0 w.heap.size 26 #[.slice A n c, .slice P m d] := by rw [hw0]; exact Whole.new _ _ _
    have H1 := hide (inear_any A P n c B m d B' q J w0 (h.below b0) (h'.below b0))
    rw [hok] at H1
    rw [ntext_no hok]
    have x0 := g0.cell 0
    have x1 := g0.cell 1
    simp only [List.getElem?_toArray, List.getElem?_cons_zero, List.getElem?_cons_succ] at x0 x1
    have HW0 := hide hw0
    clear h h' hok g0
    rw [hw0] at x0 x1
    clear hw0
    go_enter Tryd.func19, Tryd.ntmps19
    go_wp2_with fail
    rw [← unhide HW0]
    refine (unhide H1).mono ?_
    rintro e w1 ⟨rfl, d1⟩
    have d := below_after b0 d1
    clear H1 HW0 b0 d1
    go_wp2
    go_ret
    exact ⟨rfl, d⟩
end Go.Proofs.YtichenjbkclljaaDoor


/-
  impl.ParseNear, by its contract.
-/

namespace Go.Proofs.YtichenjbkclljaaDoor
set_option maxRecDepth 100000
open Go.RowKit

theorem reads_own {w : World} {B n : Nat} {A : Option Addr} {c : Nat} {xs : List Value} {e : TypeId} (h : w.ownsRow B e 1 (.slice A n c) n xs) : Reads w w.heap.size A n xs := Reads.of_own_at h
theorem parJ_small (s : ByteArray) (hs : s.size ≤ 1048576) : Small (parJ s) := fun z hz => by
  have := scanJ_small s.data.toList s.size z hz
  have h2 := size_list' s
  omega
theorem parJ_len (s : ByteArray) : (parJ s).length ≤ s.size := scanJ_len _ _
theorem runs_sum (s : ByteArray) : ((pieces s 95).map (·.size)).sum ≤ s.size := by
  rw [pieces_lens, sum_runs]
  have h1 := size_list' s
  have h4 : (scanD s.data.toList).length ≤ s.data.toList.length := List.length_filter_le _ _
  omega
set_option maxHeartbeats 3200000 in
theorem ipar_any (s : ByteArray) (hs : s.size ≤ 1048576) (m : Int) (w : World) (hm : w.cell? ⟨0, 0, none⟩ = some (.int .i64 m)) :
    Calls Tryd.prog 8 #[.string s] w (GivesNB w (parQ s) (parN s) (parOK s)) := by
  obtain ⟨w0, hw0⟩ : ∃ w0, w0 = w.alloc (.cells #[.slice none 0 0, .slice none 0 0] 26) := ⟨_, rfl⟩
  have b0 : Below w.heap.size w w0 := by rw [hw0]; exact (Below.refl _ w).alloc (Nat.le_refl _) _
  have hR0 : Whole w0 w.heap.size 26 #[.slice none 0 0, .slice none 0 0] := by rw [hw0]; exact Whole.new _ _ _
  have hmb : 0 < w.heap.size := World.block_lt_of_cell? w _ hm
  have hb95 : byteOf 95 = 95 := rfl
  have H1 := hide (isplit_any s hs 95 m w0 ((b0.cell (p := ⟨0, 0, none⟩) hmb).trans hm))
  rw [hb95] at H1
  have hpl := pieces_le s 95
  have hpn : 0 < (pieces s 95).length := by rw [pieces_length]; omega
  have HRS := hide (runs_sum s)
  have HJD := hide (join_dig s)
  have HPJ := hide (pieces_joined s)
  have hds := digB_size s
  obtain ⟨ps, hps⟩ : ∃ ps, ps = pieces s 95 := ⟨_, rfl⟩
  rw [← hps] at H1 hpl hpn HRS HJD HPJ
  have HW0 := hide hw0
  clear hm hmb hb95 hps hw0
  go_enter Tryd.func8, Tryd.ntmps8
  go_wp2_with fail
  rw [← unhide HW0]
  refine (unhide H1).mono ?_
  rintro e w1 ⟨v1, rfl, hown1, d1⟩
  obtain ⟨gr, cr, rfl⟩ := own_head hown1 hpn
  have hB1 := below_after b0 d1
  have hR1 := hR0.below d1 hR0.lt
  have H2 := hide (ijoin_row gr ps.length cr ps ⟨#[]⟩ w1 _ hown1 (by omega) (own_cap hown1) (by rw [show (⟨#[]⟩ : ByteArray).data.toList = [] from rfl, unhide HJD]; have h1 := size_list' s; have h4 : (scanD s.data.toList).length ≤ s.data.toList.length := List.length_filter_le _ _; omega))
  rw [show (⟨#[]⟩ : ByteArray).data.toList = [] from rfl, unhide HJD, show (⟨(scanD s.data.toList).toArray⟩ : ByteArray) = digB s from rfl] at H2
  clear H1 HJD b0 d1 hR0 HW0
  go_wp2_with fail
  refine (unhide H2).mono ?_
  rintro e w2 ⟨rfl, d2⟩
  have hB2 := below_after hB1 d2
  have hR2 := hR1.below d2 hR1.lt
  have hown2 := own_below hown1 d2
  have hs2 : w.heap.size + 1 ≤ w2.heap.size := hR2.lt
  obtain ⟨b, hb⟩ : ∃ b, ppOK (digB s) = b := ⟨_, rfl⟩
  have H3 := hide (ipp_any (digB s) (by omega) b hb w2)
  clear H2 d2 hB1 hR1 hown1
  go_wp2_with fail
  refine (unhide H3).mono ?_
  rintro e w3 ⟨A3, c3, rfl, o3, d3⟩
  have hB3 := below_after hB2 d3
  have hR3 := hR2.below d3 hR2.lt
  have hown3 := own_below hown2 d3
  clear H3 d3 hB2 hR2 hown2
  cases b with
  | false =>
    have hno : parOK s = false := by unfold parOK; rw [hb]; rfl
    have HNO := hide (⟨by unfold parQ; rw [hno]; rfl, by unfold parN; rw [hno]; rfl, hno⟩ : parQ s = [] ∧ parN s = [] ∧ parOK s = false)
    have q0 := hR3.cell 0
    have q1 := hR3.cell 1
    have e0 := hR3.frozen 0
    have e1 := hR3.frozen 1
    have hltr := hR3.lt
    simp only [List.getElem?_toArray, List.getElem?_cons_zero, List.getElem?_cons_succ] at q0 q1
    have HN := hide (⟨hR3, hB3⟩ : Whole w3 w.heap.size 26 #[.slice none 0 0, .slice none 0 0] ∧ Below w.heap.size w w3)
    clear hR3 hB3 o3 hown3 hb hno
    go_wp2_with fail
    obtain ⟨hR, hB⟩ := unhide HN
    have hWe := (hR.put 0 (.slice none 0 0)).put 1 (.slice none 0 0)
    refine bodyPost_ret (v := .tuple #[.agg #[.slice none 0 0, .slice none 0 0], .bool false]) (results_near Tryd.results8 _ _ w.heap.size 26 _ (0, 0) _ rfl hWe Tryd.underlying26 rfl nearInfo) rfl ?_
    rw [(unhide HNO).1, (unhide HNO).2.1, (unhide HNO).2.2]
    exact nearB_end false (NearAt.none_ _ (w.heap.size + 1)) (Nat.lt_succ_self _) hB
  | true =>
    have H4 := hide (runs_any (some ⟨gr, 0, none⟩) ps.length cr w3.heap.size ps w3 (reads_own hown3) (Nat.le_refl _) (by omega) (Nat.le_trans (unhide HRS) hs))
    rw [unhide HPJ] at H4
    clear hown3 HRS HPJ
    go_wp2_with fail
    refine (unhide H4).mono ?_
    rintro e w4 ⟨A4, c4, rfl, o4, d4⟩
    have hs3 := hR3.lt
    have hB4 := below_after hB3 d4
    have hR4 := hR3.below d4 hR3.lt
    have hs4 := d4.size
    have hN4 : NearAt w4 (w.heap.size + 1) (.slice A3 (ppR (digB s)).length c3) (.slice A4 (parJ s).length c4) (ppR (digB s)) (parJ s) := ⟨(o3.below d4).low hs2, o4.low (by omega), apart o3.until_ o4.since (Nat.le_refl _)⟩
    obtain ⟨w5, hw5⟩ : ∃ w5, w5 = w4.alloc (.cells #[.slice A3 (ppR (digB s)).length c3, .slice A4 (parJ s).length c4] 26) := ⟨_, rfl⟩
    obtain ⟨g, hg⟩ : ∃ g, g = w4.heap.size := ⟨_, rfl⟩
    have b45 : Below w4.heap.size w4 w5 := by rw [hw5]; exact (Below.refl _ w4).alloc (Nat.le_refl _) _
    have hG5 : Whole w5 g 26 #[.slice A3 (ppR (digB s)).length c3, .slice A4 (parJ s).length c4] := by rw [hw5, hg]; exact Whole.new _ _ _
    have hB5 := below_after hB4 b45
    have hR5 := hR4.below b45 hR4.lt
    have hN5 := hN4.below b45
    have hp8 := ppR_le (digB s)
    have hjl := parJ_len s
    have H5 := hide (intxt_any A3 A4 (ppR (digB s)).length c3 w5.heap.size (parJ s).length c4 w5.heap.size (ppR (digB s)) (parJ s) w5 (hN5.p.arg (by omega) hN5.p.cap (ppR_small _)) (hN5.j.arg (by omega) hN5.j.cap (parJ_small s hs)))
    have q0 := hG5.cell 0
    have q1 := hG5.cell 1
    simp only [List.getElem?_toArray, List.getElem?_cons_zero, List.getElem?_cons_succ] at q0 q1
    rw [hw5, hg] at q0 q1
    have HW5 := hide hw5
    have HG := hide hg
    have HN := hide (⟨hG5, hR5, hB5, hN5⟩ : Whole w5 g 26 #[.slice A3 (ppR (digB s)).length c3, .slice A4 (parJ s).length c4] ∧ Whole w5 w.heap.size 26 #[.slice none 0 0, .slice none 0 0] ∧ Below w.heap.size w w5 ∧ NearAt w5 (w.heap.size + 1) (.slice A3 (ppR (digB s)).length c3) (.slice A4 (parJ s).length c4) (ppR (digB s)) (parJ s))
    have HB := hide hb
    clear H4 o3 o4 d4 hR3 hB3 hB4 hR4 hN4 hw5 hg b45 hG5 hB5 hR5 hN5 hb
    go_wp2_with fail
    rw [← unhide HW5, ← unhide HG]
    refine (unhide H5).mono ?_
    rintro e w6 ⟨rfl, d6⟩
    obtain ⟨hG5, hR5, hB5, hN5⟩ := unhide HN
    have hG6 := hG5.below d6 hG5.lt
    have hR6 := hR5.below d6 hR5.lt
    have hB6 := below_after hB5 d6
    have hN6 := hN5.below d6
    have q0 := hR6.cell 0
    have q1 := hR6.cell 1
    have e0 := hR6.frozen 0
    have e1 := hR6.frozen 1
    have hltr := hR6.lt
    have p0 := hG6.cell 0
    have p1 := hG6.cell 1
    simp only [List.getElem?_toArray, List.getElem?_cons_zero, List.getElem?_cons_succ] at q0 q1 p0 p1
    obtain ⟨T, hT⟩ : ∃ T, T = ntext (ppR (digB s)) (parJ s) := ⟨_, rfl⟩
    rw [← hT]
    by_cases hTs : T = s
    · have hyes : parOK s = true := by unfold parOK; rw [unhide HB, ← hT, decide_eq_true hTs]; rfl
      have HNO := hide (⟨by unfold parQ; rw [hyes]; rfl, by unfold parN; rw [hyes]; rfl, hyes⟩ : parQ s = ppR (digB s) ∧ parN s = parJ s ∧ parOK s = true)
      have HN2 := hide (⟨hR6, hB6, hN6⟩ : Whole w6 w.heap.size 26 #[.slice none 0 0, .slice none 0 0] ∧ Below w.heap.size w w6 ∧ NearAt w6 (w.heap.size + 1) (.slice A3 (ppR (digB s)).length c3) (.slice A4 (parJ s).length c4) (ppR (digB s)) (parJ s))
      rw [hTs]
      clear hG5 hR5 hB5 hN5 hG6 hR6 hB6 hN6 hyes hTs hT HN H5 HB HW5 HG d6 hs2 hs3 hs4
      go_wp2_with fail
      obtain ⟨hR, hB, hNr⟩ := unhide HN2
      have hWe := (hR.put 0 (.slice A3 (ppR (digB s)).length c3)).put 1 (.slice A4 (parJ s).length c4)
      refine bodyPost_ret (v := .tuple #[.agg #[.slice A3 (ppR (digB s)).length c3, .slice A4 (parJ s).length c4], .bool true]) (results_near Tryd.results8 _ _ w.heap.size 26 _ (0, 0) _ rfl hWe Tryd.underlying26 rfl nearInfo) rfl ?_
      rw [(unhide HNO).1, (unhide HNO).2.1, (unhide HNO).2.2]
      exact nearB_end true hNr (Nat.lt_succ_self _) hB
    · have hno : parOK s = false := by unfold parOK; rw [unhide HB, ← hT, decide_eq_false hTs]; rfl
      have HNO := hide (⟨by unfold parQ; rw [hno]; rfl, by unfold parN; rw [hno]; rfl, hno⟩ : parQ s = [] ∧ parN s = [] ∧ parOK s = false)
      have HN2 := hide (⟨hR6, hB6⟩ : Whole w6 w.heap.size 26 #[.slice none 0 0, .slice none 0 0] ∧ Below w.heap.size w w6)
      have hne : (T.data.toList == s.toList) = false := by
        rw [ByteArray.toList_eq, beq_eq_false_iff_ne]
        intro e
        exact hTs (by cases T; cases s; simpa using e)
      have hne2 : (T.toList == s.toList) = false := by
        rw [ByteArray.toList_eq, ByteArray.toList_eq, beq_eq_false_iff_ne]
        intro e
        exact hTs (by cases T; cases s; simpa using e)
      clear hG5 hR5 hB5 hN5 hG6 hR6 hB6 hN6 hno hTs hT HN H5 HB HW5 HG d6 hs2 hs3 hs4
      go_wp2_with fail
      obtain ⟨hR, hB⟩ := unhide HN2
      have hWe := (hR.put 0 (.slice none 0 0)).put 1 (.slice none 0 0)
      refine bodyPost_ret (v := .tuple #[.agg #[.slice none 0 0, .slice none 0 0], .bool false]) (results_near Tryd.results8 _ _ w.heap.size 26 _ (0, 0) _ rfl hWe Tryd.underlying26 rfl nearInfo) rfl ?_
      rw [(unhide HNO).1, (unhide HNO).2.1, (unhide HNO).2.2]
      exact nearB_end false (NearAt.none_ _ (w.heap.size + 1)) (Nat.lt_succ_self _) hB
end Go.Proofs.YtichenjbkclljaaDoor


/-
  A RANGE OVER A FUNCTION WHOSE ITERATOR TELLS THE ROUND WHAT THE HANDED VALUE POINTS TO.
-/

namespace Go.Proofs.YtichenjbkclljaaDoor
set_option maxRecDepth 100000
open Go.RowKit

variable {F : Fence} {n : Nat} {P : Program}
/-- The iterator hands x over in a world V that it has come to from U, where the last round ended: 'Kn U x V' holds; of a round that goes on it asks Kp. -/
def Tells {α : Type} (F : Fence) (n : Nat) (P : Program) (gf : Nat) (lb : Array Value) (en : α → Array Value) (Kn : World → α → World → Prop) (Kp : World → World → Prop) (S Sp : List α → Prop) (N : Nat) (w : World) : Prop :=
  ∀ (l : Nat) (J Jx : List α → World → Prop) (W : World), Below w.heap.size w W → AbidesFrom W.heap.size J → AbidesFrom W.heap.size Jx →
    (∀ pre x U V, J pre U → Below U.heap.size U V → Kn U x V → pre.length < N → YieldAt F (n - 1) P l (en x) V fun e V' => (e = .returned (.bool true) ∧ J (pre ++ [x]) V' ∧ Kp V V') ∨ (e = .returned (.bool false) ∧ Jx (pre ++ [x]) V')) →
    J [] W → CallsIn F n P gf (#[.func (.yield l) #[] #[]] ++ lb) W fun e V => (∃ v, e = .returned v) ∧ ((∃ xs, S xs ∧ J xs V) ∨ ∃ pre, Sp pre ∧ Jx pre V)

/-- The two blocks of the loop's own book-keeping, from block D on. -/
structure Desk (D : Nat) (r : Loop) (W : World) : Prop where
  rec_ : W.heap[D + 1]? = some (.loop r)
  marks : W.heap[D]? = some (.deferred (some []))
theorem Desk.lt {D : Nat} {r : Loop} {W : World} (h : Desk D r W) : D + 1 < W.heap.size := (Array.getElem?_eq_some_iff.1 h.rec_).1
theorem Desk.walked {D : Nat} {r : Loop} {W W' : World} {row : Option Nat} (h : Desk D r W) (hg : W.grownBy W' row) (hr : ∀ k, row = some k → ∃ o : Obj, W.heap[k]? = some o ∧ o.isWalk = true) : Desk D r W' :=
  ⟨(grownBy_keeps hg hr h.rec_ rfl).trans h.rec_, (grownBy_keeps hg hr h.marks rfl).trans h.marks⟩
theorem Desk.kept {D : Nat} {r : Loop} {W W' : World} (h : Desk D r W) (hk : KeepsFrom D W W') : Desk D r W' := ⟨hk.same _ _ (by omega) h.rec_ rfl, hk.same _ _ (Nat.le_refl _) h.marks rfl⟩
theorem Desk.later {D : Nat} {r : Loop} {W W' : World} (h : Desk D r W) (hb : Below W.heap.size W W') : Desk D r W' := ⟨(hb.block _ h.lt).trans h.rec_, (hb.block _ (by have := h.lt; omega)).trans h.marks⟩
/-- The same object put into both worlds. -/
theorem below_both {U V : World} {l : Nat} (h : Below U.heap.size U V) (hl : l < U.heap.size) (o : Obj) : Below (U.putObj l o).heap.size (U.putObj l o) (V.putObj l o) := by
  have hsU := (grownBy_putObj' U l o).size
  have hsz : (U.putObj l o).heap.size = U.heap.size := by unfold World.putObj; simp
  have hsz' : (V.putObj l o).heap.size = V.heap.size := by unfold World.putObj; simp
  refine ⟨h.os, h.tape, h.output, by rw [hsz, hsz']; exact h.size, fun i hi => ?_⟩
  rw [hsz] at hi
  by_cases e : i = l
  · subst e
    rw [World.putObj_heap_same hl, World.putObj_heap_same (Nat.lt_of_lt_of_le hl h.size)]
  · rw [World.putObj_heap_other e, World.putObj_heap_other e]
    exact h.block i hi
theorem Desk.turn {D : Nat} {r : Loop} {W : World} (h : Desk D r W) (r' : Loop) : Desk D r' (W.putObj (D + 1) (.loop r')) := ⟨World.putObj_heap_same h.lt, (World.putObj_heap_other (by omega)).trans h.marks⟩
theorem Desk.new (w : World) (r : Loop) : Desk w.heap.size r ((w.alloc (.deferred (some []))).alloc (.loop r)) := by
  refine ⟨?_, (Below.heap_alloc _ _ _ (by simp)).trans (World.alloc_heap_new w _)⟩
  have := World.alloc_heap_new (w.alloc (.deferred (some []))) (.loop r)
  rwa [World.size_alloc] at this
/-- What speaks of cells abides the turn of the record. -/
theorem own_turn {β : Type} {D : Nat} {I : β → World → Prop} (hI : OwnFrom D I) {s : β} {r r' : Loop} {W : World} (h : I s W) (hd : Desk D r W) : I s (W.putObj (D + 1) (.loop r')) := hI.putObj _ h (by omega) hd.rec_ rfl
theorem walks_own {β : Type} {D B : Nat} {I : β → World → Prop} (hI : OwnFrom D I) (hB : D ≤ B) {s : β} {W W' : World} {row : Option Nat} (h : I s W) (hg : W.grownBy W' row) (hr : ∀ k, row = some k → B ≤ k ∧ ∃ o : Obj, W.heap[k]? = some o ∧ o.isWalk = true) : I s W' :=
  hI s W W' row h hg fun k e => by
    obtain ⟨h1, o, h2, h3⟩ := hr k e
    exact ⟨by omega, o, h2, Obj.not_cells_of_walk h3⟩

set_option maxHeartbeats 1600000 in
theorem range_tells {α : Type} {g : Operand} {ps : Array Tmp} {assign body : Code} {Q : Exit → Act → World → Prop} {a : Act} {w : World}
    (hro : F.round = none) (h1 : 1 ≤ n) {gf : Nat} {lb : Array Value} (hg : a.eval g = .func (.func gf) #[] lb) (hFg : F.fn gf) (eg : ∀ args w, (callFunc gf args).run P w = .ok (.enter gf args) w)
    {en : α → Array Value} {Kn : World → α → World → Prop} {Kp : World → World → Prop} {S Sp : List α → Prop} {N : Nat} {w0 : World} (hseq : Tells F (n - 1) P gf lb en Kn Kp S Sp N w0) (hb0 : Below w0.heap.size w0 w)
    (hKt : ∀ {A B C : World}, Kp A B → Kp B C → Kp A C) (hKb : ∀ (W : World) (r r' : Loop), Desk w.heap.size r W → Kp W (W.putObj (w.heap.size + 1) (.loop r')))
    (hps : ∀ x, (en x).size = ps.size) (hKn : ∀ (U V : World) (x : α) (r r' : Loop), Desk w.heap.size r U → Desk w.heap.size r V → Kn U x V → Kn (U.putObj (w.heap.size + 1) (.loop r')) x (V.putObj (w.heap.size + 1) (.loop r')))
    (I : List α → World → Prop) (Ix : Code → List α → World → Prop) (hI : OwnFrom w.heap.size I) (hIx : ∀ c, OwnFrom w.heap.size (Ix c)) (h0 : I [] w) (a₁ : α → Act)
    (hassign : ∀ (l : Nat) (x : α) (W : World) (K : Act → World → Prop), K (a₁ x) W →
      assign.wpIn (F.inRound l) (n - 1 - 1) P (Exit.then K (fun _ _ _ => False)) { tmps := (ps.zip (en x)).foldl (fun t (p, v) => t.setIfInBounds p v) a.tmps, defers := [] } W)
    (hbody : ∀ (l : Nat) (pre : List α) (x : α) (U W : World), I pre U → Below U.heap.size U W → Kn U x W → pre.length < N → w.heap.size + 2 ≤ U.heap.size → body.wpIn (F.inRound l) (n - 1 - 1) P (ownPostG w.heap.size Kp I Ix (pre ++ [x]) W) (a₁ x) W)
    (hdone : ∀ (xs : List α) (W : World), S xs → I xs W → W.heap[w.heap.size]? = some (.deferred (some [])) → Q .normal { a with defers := { target := .collected w.heap.size, args := #[] } :: a.defers } W)
    (hstop : ∀ (c : Code) (pre : List α) (W : World), Sp pre → Ix c pre W → W.heap[w.heap.size]? = some (.deferred (some [])) → c.wpIn F n P Q { a with defers := { target := .collected w.heap.size, args := #[] } :: a.defers } W) :
    (Code.rangeFunc g ps assign body).wpIn F n P Q a w := by
  refine wpIn_rangeFunc fun fn hfn => ?_
  rw [hro]
  obtain ⟨R, hR⟩ : ∃ R : LoopState → Option Code → Loop, R = fun st pe => { state := st, pending := pe, fn, tmps := a.tmps, params := ps, assign, body, defers := w.heap.size } := ⟨_, rfl⟩
  have hd0 := Desk.new w (R .ready none)
  have hI0 : I [] ((w.alloc (.deferred (some []))).alloc (.loop (R .ready none))) := hI.alloc _ (hI.alloc _ h0)
  have hbel : Below w0.heap.size w0 ((w.alloc (.deferred (some []))).alloc (.loop (R .ready none))) := hb0.trans ((((Below.refl _ w).alloc (Nat.le_refl _) _).alloc (by simp) _).mono hb0.size)
  have hrun0 : (Instr.enterLoop fn a.tmps ps assign body none).run P w = .ok (w.heap.size + 1, [{ target := .collected w.heap.size, args := #[] }]) ((w.alloc (.deferred (some []))).alloc (.loop (R .ready none))) := by rw [hR]; exact run_enterLoop_outer _ _ _ _ _
  have hsz1 : w.heap.size ≤ ((w.alloc (.deferred (some []))).alloc (.loop (R .ready none))).heap.size := by simp; omega
  obtain ⟨W1, hW1⟩ : ∃ W1, W1 = (w.alloc (.deferred (some []))).alloc (.loop (R .ready none)) := ⟨_, rfl⟩
  rw [← hW1] at hd0 hI0 hbel hrun0 hsz1
  clear hW1
  refine ⟨w.heap.size + 1, [{ target := .collected w.heap.size, args := #[] }], W1, { target := .fn (.func gf) lb, args := #[.func (.yield (w.heap.size + 1)) #[] #[]] }, W1, gf,
    #[.func (.yield (w.heap.size + 1)) #[] #[]] ++ lb, W1, hrun0, ?_, ?_, ?_, fun _ => h1, ?_⟩
  · simp only [resolve, hg]
    simp [go_sem]
  · intro f' hf'
    simp [Target.leads] at hf'
    subst hf'
    exact hFg
  · simp [invoke, go_sem, eg]
  · refine (hseq (w.heap.size + 1) (fun pre W => I pre W ∧ Desk w.heap.size (R .ready none) W) (fun pre W => ∃ c, Ix c pre W ∧ Desk w.heap.size (R .done (some c)) W) W1 hbel
      (fun s X Y row hs hgr hr => ⟨walks_own hI hsz1 hs.1 hgr hr, hs.2.walked hgr fun k e => (hr k e).2⟩)
      (fun s X Y row hs hgr hr => by obtain ⟨c, hc, hd⟩ := hs; exact ⟨c, walks_own (hIx c) hsz1 hc hgr hr, hd.walked hgr fun k e => (hr k e).2⟩)
      ?_ ⟨hI0, hd0⟩).mono ?_
    · rintro pre x U V ⟨hi, hdU⟩ hbU hkn hlen
      have hd := hdU.later hbU
      have hy := run_yield (P := P) (args := en x) hd.rec_ (by rw [hR]; exact hps x)
      rw [hR] at hy
      refine ⟨fn, _, assign, body, hy, roundIn_of_wpIn hfn (hassign _ x V _ ⟨_, run_beginRound hd.rec_ (by rw [hR]), ?_⟩)⟩
      obtain ⟨r1, hr1⟩ : ∃ r1 : Loop, r1 = { R .ready none with state := .busy } := ⟨_, rfl⟩
      rw [← hr1]
      have hd1 := hd.turn r1
      have hk1 := hKb V _ r1 hd
      have hlt := (hdU.turn r1).lt
      refine wpIn_mono (hbody _ pre x _ _ (own_turn hI hi hdU) (below_both hbU hdU.lt _) (hKn _ _ _ _ r1 hdU hd hkn) hlen (by omega)) ?_
      -- the end of a round
      have fin : ∀ (c : Option Code) (V' : World), KeepsFrom w.heap.size (V.putObj (w.heap.size + 1) (.loop r1)) V' → Desk w.heap.size r1 V' ∧
          (Instr.endRound (w.heap.size + 1) c).run P V' = .ok (.bool c.isNone) (V'.putObj (w.heap.size + 1) (.loop (R (if c.isNone then .ready else .done) c))) := fun c V' hk => by
        have hd2 := hd1.kept hk
        refine ⟨hd2, ?_⟩
        have := run_endRound (P := P) c hd2.rec_
        rw [hr1] at this
        rw [this, hR]
      rintro e a3 V3 hp
      cases e with
      | normal =>
        obtain ⟨hd3, hrun⟩ := fin none V3 hp.1
        exact ⟨_, _, hrun, .inl ⟨rfl, ⟨own_turn hI hp.2.2 hd3, hd3.turn _⟩, hKt (hKt hk1 hp.2.1) (hKb _ _ _ hd3)⟩⟩
      | ret =>
        obtain ⟨hd3, hrun⟩ := fin (some .ret) V3 hp.1
        exact ⟨_, _, hrun, .inr ⟨rfl, .ret, own_turn (hIx _) hp.2 hd3, hd3.turn _⟩⟩
      | exit id =>
        obtain ⟨hd3, hrun⟩ := fin (some (.exit id)) V3 hp.1
        exact ⟨_, _, hrun, .inr ⟨rfl, .exit id, own_turn (hIx _) hp.2 hd3, hd3.turn _⟩⟩
      | goto t =>
        obtain ⟨hd3, hrun⟩ := fin (some (.goto t)) V3 hp.1
        exact ⟨_, _, hrun, .inr ⟨rfl, .goto t, own_turn (hIx _) hp.2 hd3, hd3.turn _⟩⟩
      | panic _ => exact hp.elim
      | outgrown => exact hp.elim
    · rintro e V ⟨⟨v, rfl⟩, hend⟩
      rcases hend with ⟨xs, hS, hi, hd⟩ | ⟨pre, hSp, c, hi, hd⟩
      · have hrun := run_endLoop (P := P) hd.rec_ (by rw [hR]; simp)
        rw [hR] at hrun
        exact ⟨none, _, hrun, hdone xs _ hS (own_turn hI hi hd) (hd.turn _).marks⟩
      · have hrun := run_endLoop (P := P) hd.rec_ (by rw [hR]; simp)
        rw [hR] at hrun
        exact ⟨some c, _, hrun, hstop c pre _ hSp (own_turn (hIx c) hi hd) (hd.turn _).marks⟩

/-! what a round keeps: rows -/
/-- Blocks of cells from block D on that hold no rows of rows lie as they lay. -/
structure RowsFrom (D : Nat) (W W' : World) : Prop where
  size : W.heap.size ≤ W'.heap.size
  same : ∀ (k : Nat) (cur : Array Value) (e : TypeId) (fr : Nat × Nat), D ≤ k → W.heap[k]? = some (.cells cur e fr) → e ≠ 24 → W'.heap[k]? = some (.cells cur e fr)
theorem RowsFrom.refl (D : Nat) (W : World) : RowsFrom D W W := ⟨Nat.le_refl _, fun _ _ _ _ _ h _ => h⟩
theorem RowsFrom.trans {D : Nat} {X Y Z : World} (h : RowsFrom D X Y) (k : RowsFrom D Y Z) : RowsFrom D X Z := ⟨Nat.le_trans h.size k.size, fun i cur e fr hi hk he => k.same i cur e fr hi (h.same i cur e fr hi hk he) he⟩
theorem RowsFrom.of_keepI {D : Nat} {W W' : World} (h : KeepI W W') : RowsFrom D W W' := ⟨h.size, fun k cur e fr _ hk he => (h.block k cur e fr hk he).trans hk⟩
theorem RowsFrom.of_below {D : Nat} {W W' : World} (h : Below W.heap.size W W') : RowsFrom D W W' := .of_keepI (.of_below h)
/-- A step that turns one block alone: it lies below D, or it holds no cells. -/
theorem RowsFrom.of_grownBy {D : Nat} {W W' : World} {row : Option Nat} (hg : W.grownBy W' row) (hr : ∀ k, row = some k → k < D ∨ ∃ o : Obj, W.heap[k]? = some o ∧ o.isCells = false) : RowsFrom D W W' :=
  ⟨hg.size, fun k cur e fr hk hc _ => (hg.block k (Array.getElem?_eq_some_iff.1 hc).1 fun e => by
    rcases hr k e.symm with h | ⟨o, ho, h⟩
    · omega
    · rw [hc] at ho; cases ho; cases h).trans hc⟩
theorem RowsFrom.turn {D B : Nat} {r : Loop} {W : World} (h : Desk B r W) (r' : Loop) : RowsFrom D W (W.putObj (B + 1) (.loop r')) := .of_grownBy (grownBy_putObj' W _ _) fun k e => by cases e; exact .inr ⟨_, h.rec_, rfl⟩
theorem RowsFrom.stored {D b : Nat} (W : World) (hb : b < D) (v : Value) : RowsFrom D W (W.setCell ⟨b, 0, none⟩ v) := .of_grownBy (grownBy_setCell' W b v) fun k e => by cases e; exact .inl hb
theorem Ints.rows {D : Nat} {W W' : World} {v : Value} {zs : List Int} (h : Ints W D v zs) (hk : RowsFrom D W W') : Ints W' D v zs := by
  refine ⟨h.1, ?_⟩
  rcases h.2 with h0 | ⟨g, cap, cur, e, hv, hb, hc, h1, h2, h3⟩
  · exact .inl h0
  · exact .inr ⟨g, cap, cur, e, hv, hb, hk.same g cur e _ hb hc h3, h1, h2, h3⟩
/-- A row speaks of cells alone. -/
theorem ints_own (D B : Nat) : OwnFrom D (fun (x : Value × List Int) W => Ints W B x.1 x.2) := fun x X Y row h hg hr => by
  refine ⟨h.1, ?_⟩
  rcases h.2 with h0 | ⟨g, cap, cur, e, hv, hb, hc, rest⟩
  · exact .inl h0
  · refine .inr ⟨g, cap, cur, e, hv, hb, (hg.block g (Array.getElem?_eq_some_iff.1 hc).1 fun e' => ?_).trans hc, rest⟩
    obtain ⟨_, o, ho, hcl⟩ := hr g e'.symm
    rw [hc] at ho; cases ho; cases hcl
/-- A row that was made since the last round: what range_tells asks of Kn. -/
theorem kn_row (D : Nat) (U V : World) (x : Value × List Int) (r r' : Loop) (_ : Desk D r U) (hd : Desk D r V) (h : Ints V U.heap.size x.1 x.2) : Ints (V.putObj (D + 1) (.loop r')) (U.putObj (D + 1) (.loop r')).heap.size x.1 x.2 := by
  have hsz : (U.putObj (D + 1) (.loop r')).heap.size = U.heap.size := by unfold World.putObj; simp
  rw [hsz]
  exact own_turn (ints_own D U.heap.size) (s := x) h hd
theorem intsS_own (D B : Nat) {β : Type} (v : Value) (f : β → List (List Int)) : OwnFrom D (fun (s : β) W => IntsS W B v (f s)) := fun s X Y row h hg hr => by
  obtain ⟨vs, h1, h2⟩ := h
  have hne : ∀ (u : Value) (zs : List Int), Ints X B u zs → Ints Y B u zs := fun u zs hu => ints_own D B (u, zs) X Y row hu hg hr
  refine ⟨vs, ?_, ⟨h2.len, fun i u zs hu hz => hne u zs (h2.row i u zs hu hz), h2.away⟩⟩
  refine h1.kept hg ?_
  rcases h1.2 with hn | ⟨g, cap, cur, hv, hb, hc, rest⟩
  · rw [hn.1]; exact .inl rfl
  · rw [hv]
    refine .inr fun e => ?_
    obtain ⟨_, o, ho, hcl⟩ := hr g e.symm
    rw [hc] at ho; cases ho; cases hcl
end Go.Proofs.YtichenjbkclljaaDoor
