/-
  For every code the law FnMeets answers true and leaves its argument as it was: what two classes share, join and turn into.
-/
import Derived.Test.YtoiipedomgefaaaGreatDoorB14
import Derived.Test.YtoiipedomgefaaaGreatDoorB8
import Derived.Test.YtoiipedomgefaaaGreatDoorB11
import Derived.Test.YtoiipedomgefaaaGreatDoorB12
import Derived.Test.YtoiipedomgefaaaGreatDoorB5
import Derived.Test.YtoiipedomgefaaaGreatDoorB6
import Derived.Test.YtoiipedomgefaaaGreatDoorB7
import Derived.Test.YtoiipedomgefaaaGreatDoorB10
import Derived.Deep.RegionHeld3














namespace Go.Proofs.YtoiipedomgefaaaGreatDoor.fnMeets
set_option maxRecDepth 100000
open Go.ChangeShapes Go.WideShapes Go.ChangeAt Go.RowKit

theorem keep1 {wr w : World} {p : Addr} {v : Value} (h : wr.cell? p = some v) (l : p.block < wr.heap.size) (hb : Below wr.heap.size wr w) : w.cell? p = some v ∧ Below wr.heap.size wr w := ⟨(hb.cell l).trans h, hb⟩
theorem meet_facts (a b : List (List Int)) : meetOK a b = true → withR (meetR a b) a = true ∧ withR (meetR a b) b = true ∧ ∀ p, inC (meetR a b) p = (inC a p && inC b p) := fun h => ⟨(meet_with h).1, (meet_with h).2, meet_in h⟩
theorem meet_rows (a b : List (List Int)) : (meetR a b).length ≤ 8 ∧ ∀ z ∈ meetR a b, Lite 9 z := ⟨(meetR_rows a b).1, fun z hz => lite_P ((meetR_rows a b).2.2 z hz)⟩
theorem meet_tot (a b : List (List Int)) : tot (meetR a b) ≤ 64 := (meetR_rows a b).2.1
theorem sym_rows (l : List (List Int)) (x : Int) : (symBR l x).length ≤ 8 ∧ ∀ z ∈ symBR l x, Lite 9 z := ⟨(symBR_rows l x).1, fun z hz => lite_P ((symBR_rows l x).2.2 z hz)⟩
theorem sym_tot (l : List (List Int)) (x : Int) : tot (symBR l x) ≤ 64 := (symBR_rows l x).2.1
theorem sym_facts (l : List (List Int)) (x : Int) : symBOK l x = true → cntsR (symBR l x) 4 = cntsR l 4 := fun h => by
  have h1 := h
  unfold symBOK at h1
  rw [Bool.and_eq_true, decide_eq_true_eq] at h1
  obtain ⟨hb, h2, h3⟩ := h1
  obtain ⟨k, rfl⟩ : ∃ k : Nat, x = k := ⟨x.toNat, by omega⟩
  rw [(symBR_yes hb (by omega)).2]
  exact sym_cnts (n := 4) hb (by omega) (by omega)
theorem bey_lite (y z : List (List Int)) (x : Int) : Lite 9 (beyR y z x) := ⟨by have := (beyR_le y z x).1; omega, fun v hv => by have := (beyR_le y z x).2 v hv; omega⟩
theorem bey_facts (y z : List (List Int)) (x : Int) : beyOK y z x = true → inC y (beyR y z x) = true ∧ inC z (beyR y z x) = false ∧ withR y z = false := bey_with
theorem lite_rev {z : List Int} {n : Nat} (h : Lite n z) : Lite n z.reverse := ⟨by rw [List.length_reverse]; exact h.1, fun x hx => h.2 x (List.mem_reverse.1 hx)⟩
/-- The last ascending row so far. -/
def upI (f : List (List Int)) (k u : Nat) : Prop := upTo u ∈ f ∨ ∀ z ∈ f.take k, strP z = false
def dnI (f : List (List Int)) (k d : Nat) : Prop := (upTo d).reverse ∈ f ∨ ∀ z ∈ f.take k, strP z.reverse = false
theorem upI_start (f : List (List Int)) : upI f 0 0 := .inr fun z hz => by simp at hz
theorem dnI_start (f : List (List Int)) : dnI f 0 0 := .inr fun z hz => by simp at hz
theorem upI_yes {f : List (List Int)} {k : Nat} {z : List Int} (hz : f[k]? = some z) (h : strP z = true) : upI f (k + 1) z.length := .inl (by
  have h1 : z = upTo z.length := of_decide_eq_true h
  rw [← h1]; exact List.mem_of_getElem? hz)
theorem dnI_yes {f : List (List Int)} {k : Nat} {z : List Int} (hz : f[k]? = some z) (h : strP z.reverse = true) : dnI f (k + 1) z.length := .inl (by
  have h1 : z.reverse = upTo z.reverse.length := of_decide_eq_true h
  rw [List.length_reverse] at h1
  rw [← h1, List.reverse_reverse]; exact List.mem_of_getElem? hz)
theorem upI_no {f : List (List Int)} {k u : Nat} {z : List Int} (hz : f[k]? = some z) (h : strP z = false) : upI f k u → upI f (k + 1) u
  | .inl h1 => .inl h1
  | .inr h1 => .inr (row_step hz h h1)
theorem dnI_no {f : List (List Int)} {k u : Nat} {z : List Int} (hz : f[k]? = some z) (h : strP z.reverse = false) : dnI f k u → dnI f (k + 1) u
  | .inl h1 => .inl h1
  | .inr h1 => .inr (row_step (f := fun z => strP z.reverse) hz h h1)
theorem fin_end {f : List (List Int)} : finR f = true → ∀ u d, upI f f.length u → dnI f f.length d → 1 ≤ u ∧ 1 ≤ d ∧ ((u - 1) * (d - 1) < 6 → clsO f (((u - 1) * (d - 1) + 1 : Nat) : Int) = []) := fun h u d hu hd => by
  have h0 := h
  unfold finR at h0
  rw [Bool.and_eq_true, Bool.and_eq_true, List.any_eq_true, List.any_eq_true] at h0
  obtain ⟨hb, ⟨x, hx, hx2⟩, y, hy, hy2⟩ := h0
  have h1 : upTo u ∈ f := by
    rcases hu with hu | hu
    · exact hu
    · rw [List.take_of_length_le (Nat.le_refl _)] at hu
      have := hu x hx; rw [hx2] at this; cases this
  have h2 : (upTo d).reverse ∈ f := by
    rcases hd with hd | hd
    · exact hd
    · rw [List.take_of_length_le (Nat.le_refl _)] at hd
      have := hd y hy; rw [hy2] at this; cases this
  have e1 := (basis_isP hb _ h1).2
  have e2 := (basis_isP hb _ h2).2
  rw [upTo_length] at e1
  rw [List.length_reverse, upTo_length] at e2
  refine ⟨by omega, by omega, fun hm => ?_⟩
  rw [clsO_yes hb (by omega), sift_all]
  exact fin_none hb h1 h2 hm
set_option maxRecDepth 100000 in
set_option maxHeartbeats 25600000 in
theorem walk (A : Option Addr) (n c : Nat) (bs : List UInt8) (a0 : Addr) (w : World) (hr : Reads w w.heap.size A n (u8s bs)) (hn : n ≤ maxLen) (hE : ErrAt a0 w) :
    Calls Tryz.prog 3 #[.slice A n c] w fun e w' => e = .returned (.bool true) ∧ Below w.heap.size w w' := by
  unfold maxLen at hn
  have HG := hide (big_any A n c hn w)
  have HM := hide (fun (w' : World) (hb : Below w.heap.size w w') => hE.below hb)
  clear hE
  by_cases hbig : n ≤ 1048576
  · rw [show decide (1048576 < n) = false from decide_eq_false (by omega)] at HG
    go_enter Tryz.func3, Tryz.ntmps3
    go_wp2_with fail
    refine (unhide HG).mono ?_
    rintro e w0 ⟨rfl, rfl⟩
    clear HG
    have hb := Below.refl w.heap.size w
    go_wp2_with fail
    refine (dmeet_any A n c w.heap.size bs w (hr.below hb) hbig hb.size).mono ?_
    rintro e w1 ⟨A_a, c_a, a, A_b, c_b, b, rfl, k_a, k_b, l_a, l_b, o_a, o_b, d⟩
    replace hb := below_after hb d
    clear d
    replace l_a := hide l_a
    replace l_b := hide l_b
    obtain ⟨ok1, hok1⟩ : ∃ v9, v9 = meetOK a b := ⟨_, rfl⟩
    obtain ⟨m, hm⟩ : ∃ v9, v9 = meetR a b := ⟨_, rfl⟩
    have HF1 := hide (meet_facts a b)
    have hr1 := meet_rows a b
    have hr1t := meet_tot a b
    rw [← hok1, ← hm] at HF1
    rw [← hm] at hr1 hr1t
    have k_m := hr1.1
    have l_m := hide hr1.2
    clear hr1
    have Hok1 := hide hok1
    clear hok1
    have Hm := hide hm
    clear hm
    have H1 := hide (imeet_any A_a A_b _ c_a _ _ c_b _ a b w1 o_a o_b (by omega) (by omega) (lite_rows (unhide l_a)) (lite_rows (unhide l_b)) a0 (unhide HM _ hb))
    rw [← unhide Hok1, ← unhide Hm] at H1
    go_wp2_with fail
    refine (unhide H1).mono ?_
    rintro e w2 ⟨A_m, c_m, rfl, o_m, d⟩
    replace o_a := o_a.below d
    replace o_b := o_b.below d
    replace hb := below_after hb d
    clear d
    clear H1
    have H1 := hide (smeet_any A_a A_b _ c_a _ _ c_b _ a b w2 o_a o_b (by omega) (by omega) (lite_rows (unhide l_a)) (lite_rows (unhide l_b)))
    rw [← unhide Hok1, ← unhide Hm] at H1
    go_wp2_with fail
    refine (unhide H1).mono ?_
    rintro e w3 ⟨A_r, c_r, rfl, o_r, d⟩
    replace o_a := o_a.below d
    replace o_b := o_b.below d
    replace o_m := o_m.below d
    replace hb := below_after hb d
    clear d
    clear H1
    go_wp2_with fail
    refine (duni_any A n c w.heap.size bs w3 (hr.below hb) hbig hb.size).mono ?_
    rintro e w4 ⟨A_u, c_u, u, A_v, c_v, v, x1, rfl, k_u, k_v, l_u, l_v, x1a, x1b, o_u, o_v, d⟩
    replace o_a := o_a.below d
    replace o_b := o_b.below d
    replace o_m := o_m.below d
    replace o_r := o_r.below d
    replace hb := below_after hb d
    clear d
    replace l_u := hide l_u
    replace l_v := hide l_v
    obtain ⟨R5, hR5⟩ : ∃ v9, v9 = uniR u v x1 := ⟨_, rfl⟩
    have hr5 : (uniR u v x1).length ≤ 4320 ∧ tot (uniR u v x1) ≤ 34560 := ⟨(uniR_rows u v x1).1, (uniR_rows u v x1).2.1⟩
    rw [← hR5] at hr5
    have HR5 := hide hR5
    clear hR5
    have H1 := hide (iuni_any A_u A_v _ c_u _ _ c_v _ u v x1 ⟨by omega, by omega⟩ w4 o_u o_v (by omega) (by omega) (lite_rows (unhide l_u)) (lite_rows (unhide l_v)) a0 (unhide HM _ hb))
    rw [← unhide HR5] at H1
    go_wp2_with fail
    refine (unhide H1).mono ?_
    rintro e w5 ⟨A_g, c_g, rfl, o_g, d⟩
    replace o_a := o_a.below d
    replace o_b := o_b.below d
    replace o_m := o_m.below d
    replace o_r := o_r.below d
    replace o_u := o_u.below d
    replace o_v := o_v.below d
    replace hb := below_after hb d
    clear d
    clear H1
    go_wp2_with fail
    refine (dsymb_any A n c w.heap.size bs w5 (hr.below hb) hbig hb.size).mono ?_
    rintro e w6 ⟨A_l, c_l, l, x2, rfl, k_l, l_l, x2a, x2b, o_l, d⟩
    replace o_a := o_a.below d
    replace o_b := o_b.below d
    replace o_m := o_m.below d
    replace o_r := o_r.below d
    replace o_u := o_u.below d
    replace o_v := o_v.below d
    replace o_g := o_g.below d
    replace hb := below_after hb d
    clear d
    replace l_l := hide l_l
    obtain ⟨ok3, hok3⟩ : ∃ v9, v9 = symBOK l x2 := ⟨_, rfl⟩
    obtain ⟨s, hs⟩ : ∃ v9, v9 = symBR l x2 := ⟨_, rfl⟩
    have HF3 := hide (sym_facts l x2)
    have hr3 := sym_rows l x2
    have hr3t := sym_tot l x2
    rw [← hok3, ← hs] at HF3
    rw [← hs] at hr3 hr3t
    have k_s := hr3.1
    have l_s := hide hr3.2
    clear hr3
    have Hok3 := hide hok3
    clear hok3
    have Hs := hide hs
    clear hs
    have H1 := hide (isymb_any A_l _ c_l _ l x2 ⟨by omega, by omega⟩ w6 o_l (by omega) (lite_rows (unhide l_l)) a0 (unhide HM _ hb))
    rw [← unhide Hok3, ← unhide Hs] at H1
    go_wp2_with fail
    refine (unhide H1).mono ?_
    rintro e w7 ⟨A_s, c_s, rfl, o_s, d⟩
    replace o_a := o_a.below d
    replace o_b := o_b.below d
    replace o_m := o_m.below d
    replace o_r := o_r.below d
    replace o_u := o_u.below d
    replace o_v := o_v.below d
    replace o_g := o_g.below d
    replace o_l := o_l.below d
    replace hb := below_after hb d
    clear d
    clear H1
    have H1 := hide (ssymb_any A_l _ c_l _ l x2 ⟨by omega, by omega⟩ w7 o_l (by omega) (lite_rows (unhide l_l)))
    rw [← unhide Hok3, ← unhide Hs] at H1
    go_wp2_with fail
    refine (unhide H1).mono ?_
    rintro e w8 ⟨A_t, c_t, rfl, o_t, d⟩
    replace o_a := o_a.below d
    replace o_b := o_b.below d
    replace o_m := o_m.below d
    replace o_r := o_r.below d
    replace o_u := o_u.below d
    replace o_v := o_v.below d
    replace o_g := o_g.below d
    replace o_l := o_l.below d
    replace o_s := o_s.below d
    replace hb := below_after hb d
    clear d
    clear H1
    go_wp2_with fail
    refine (dfin_any A n c w.heap.size bs w8 (hr.below hb) hbig hb.size).mono ?_
    rintro e w9 ⟨A_f, c_f, f, rfl, k_f, l_f, o_f, d⟩
    replace o_a := o_a.below d
    replace o_b := o_b.below d
    replace o_m := o_m.below d
    replace o_r := o_r.below d
    replace o_u := o_u.below d
    replace o_v := o_v.below d
    replace o_g := o_g.below d
    replace o_l := o_l.below d
    replace o_s := o_s.below d
    replace o_t := o_t.below d
    replace hb := below_after hb d
    clear d
    replace l_f := hide l_f
    go_wp2_with fail
    refine (dsumc_any A n c w.heap.size bs w9 (hr.below hb) hbig hb.size).mono ?_
    rintro e w10 ⟨A_q, c_q, q, rfl, k_q, l_q, o_q, d⟩
    replace o_a := o_a.below d
    replace o_b := o_b.below d
    replace o_m := o_m.below d
    replace o_r := o_r.below d
    replace o_u := o_u.below d
    replace o_v := o_v.below d
    replace o_g := o_g.below d
    replace o_l := o_l.below d
    replace o_s := o_s.below d
    replace o_t := o_t.below d
    replace o_f := o_f.below d
    replace hb := below_after hb d
    clear d
    replace l_q := hide l_q
    go_wp2_with fail
    refine (dbey_any A n c w.heap.size bs w10 (hr.below hb) hbig hb.size).mono ?_
    rintro e w11 ⟨A_y, c_y, y, A_z, c_z, z, x3, rfl, k_y, k_z, l_y, l_z, x3a, x3b, o_y, o_z, d⟩
    replace o_a := o_a.below d
    replace o_b := o_b.below d
    replace o_m := o_m.below d
    replace o_r := o_r.below d
    replace o_u := o_u.below d
    replace o_v := o_v.below d
    replace o_g := o_g.below d
    replace o_l := o_l.below d
    replace o_s := o_s.below d
    replace o_t := o_t.below d
    replace o_f := o_f.below d
    replace o_q := o_q.below d
    replace hb := below_after hb d
    clear d
    replace l_y := hide l_y
    replace l_z := hide l_z
    obtain ⟨ok7, hok7⟩ : ∃ v9, v9 = beyOK y z x3 := ⟨_, rfl⟩
    obtain ⟨p, hp⟩ : ∃ v9, v9 = beyR y z x3 := ⟨_, rfl⟩
    have HF7 := hide (bey_facts y z x3)
    have k_p := (bey_lite y z x3).1
    have l_p := hide (bey_lite y z x3)
    rw [← hok7, ← hp] at HF7
    rw [← hp] at k_p l_p
    have Hok7 := hide hok7
    clear hok7
    have Hp := hide hp
    clear hp
    have H1 := hide (ibey_any A_y A_z _ c_y _ _ c_z _ y z x3 ⟨by omega, by omega⟩ w11 o_y o_z (by omega) (by omega) (lite_rows (unhide l_y)) (lite_rows (unhide l_z)) a0 (unhide HM _ hb))
    rw [← unhide Hok7, ← unhide Hp] at H1
    go_wp2_with fail
    refine (unhide H1).mono ?_
    rintro e w12 ⟨A_p, c_p, rfl, o_p, d⟩
    replace o_a := o_a.below d
    replace o_b := o_b.below d
    replace o_m := o_m.below d
    replace o_r := o_r.below d
    replace o_u := o_u.below d
    replace o_v := o_v.below d
    replace o_g := o_g.below d
    replace o_l := o_l.below d
    replace o_s := o_s.below d
    replace o_t := o_t.below d
    replace o_f := o_f.below d
    replace o_q := o_q.below d
    replace o_y := o_y.below d
    replace o_z := o_z.below d
    replace hb := below_after hb d
    clear d
    clear H1
    have H1 := hide (sbey_any A_y A_z _ c_y _ _ c_z _ y z x3 ⟨by omega, by omega⟩ w12 o_y o_z (by omega) (by omega) (lite_rows (unhide l_y)) (lite_rows (unhide l_z)))
    rw [← unhide Hok7, ← unhide Hp] at H1
    go_wp2_with fail
    refine (unhide H1).mono ?_
    rintro e w13 ⟨A_j, c_j, rfl, o_j, d⟩
    replace o_a := o_a.below d
    replace o_b := o_b.below d
    replace o_m := o_m.below d
    replace o_r := o_r.below d
    replace o_u := o_u.below d
    replace o_v := o_v.below d
    replace o_g := o_g.below d
    replace o_l := o_l.below d
    replace o_s := o_s.below d
    replace o_t := o_t.below d
    replace o_f := o_f.below d
    replace o_q := o_q.below d
    replace o_y := o_y.below d
    replace o_z := o_z.below d
    replace o_p := o_p.below d
    replace hb := below_after hb d
    clear d
    clear H1
    obtain ⟨bf, hbf⟩ : ∃ v9, v9 = finR f := ⟨_, rfl⟩
    have H3 := hide (fin_end (f := f))
    rw [← hbf] at H3
    have Hbf := hide hbf
    clear hbf
    obtain ⟨bq, hbq⟩ : ∃ v9, v9 = sumC q := ⟨_, rfl⟩
    have Hbq := hide hbq
    clear hbq
    obtain ⟨bw, hbw⟩ : ∃ v9, v9 = withR a b := ⟨_, rfl⟩
    have Hbw := hide hbw
    clear hbw
    go_wp2_with fail
    refine (samess_any _ _ _ _ _ _ _ _ _ _ o_m o_r (by omega) (by omega)).mono ?_
    rintro e w14 ⟨rfl, d0⟩
    have d := d0.below w13.heap.size
    clear d0
    replace o_a := o_a.below d
    replace o_b := o_b.below d
    replace o_m := o_m.below d
    replace o_r := o_r.below d
    replace o_u := o_u.below d
    replace o_v := o_v.below d
    replace o_g := o_g.below d
    replace o_l := o_l.below d
    replace o_s := o_s.below d
    replace o_t := o_t.below d
    replace o_f := o_f.below d
    replace o_q := o_q.below d
    replace o_y := o_y.below d
    replace o_z := o_z.below d
    replace o_p := o_p.below d
    replace o_j := o_j.below d
    replace hb := below_after hb d
    clear d
    clear o_r
    have H1 := hide (suni_any A_u A_v _ c_u _ _ c_v _ u v x1 ⟨by omega, by omega⟩ w14 o_u o_v (by omega) (by omega) (lite_rows (unhide l_u)) (lite_rows (unhide l_v)))
    rw [← unhide HR5] at H1
    go_wp2_with fail
    refine (unhide H1).mono ?_
    rintro e w15 ⟨A_i, c_i, rfl, o_i, d⟩
    replace o_a := o_a.below d
    replace o_b := o_b.below d
    replace o_m := o_m.below d
    replace o_u := o_u.below d
    replace o_v := o_v.below d
    replace o_g := o_g.below d
    replace o_l := o_l.below d
    replace o_s := o_s.below d
    replace o_t := o_t.below d
    replace o_f := o_f.below d
    replace o_q := o_q.below d
    replace o_y := o_y.below d
    replace o_z := o_z.below d
    replace o_p := o_p.below d
    replace o_j := o_j.below d
    replace hb := below_after hb d
    clear d
    clear H1
    go_wp2_with fail
    refine (samess_any _ _ _ _ _ _ _ _ _ _ o_g o_i (by omega) (by omega)).mono ?_
    rintro e w16 ⟨rfl, d0⟩
    have d := d0.below w15.heap.size
    clear d0
    replace o_a := o_a.below d
    replace o_b := o_b.below d
    replace o_m := o_m.below d
    replace o_u := o_u.below d
    replace o_v := o_v.below d
    replace o_g := o_g.below d
    replace o_l := o_l.below d
    replace o_s := o_s.below d
    replace o_t := o_t.below d
    replace o_f := o_f.below d
    replace o_q := o_q.below d
    replace o_y := o_y.below d
    replace o_z := o_z.below d
    replace o_p := o_p.below d
    replace o_j := o_j.below d
    replace o_i := o_i.below d
    replace hb := below_after hb d
    clear d
    clear o_g
    clear o_i
    clear o_u
    clear o_v
    go_wp2_with fail
    refine (samess_any _ _ _ _ _ _ _ _ _ _ o_s o_t (by omega) (by omega)).mono ?_
    rintro e w17 ⟨rfl, d0⟩
    have d := d0.below w16.heap.size
    clear d0
    replace o_a := o_a.below d
    replace o_b := o_b.below d
    replace o_m := o_m.below d
    replace o_l := o_l.below d
    replace o_s := o_s.below d
    replace o_t := o_t.below d
    replace o_f := o_f.below d
    replace o_q := o_q.below d
    replace o_y := o_y.below d
    replace o_z := o_z.below d
    replace o_p := o_p.below d
    replace o_j := o_j.below d
    replace hb := below_after hb d
    clear d
    clear o_t
    have H1 := hide (ifin_any A_f _ c_f _ f w17 o_f (by omega) (lite_rows (unhide l_f)) a0 (unhide HM _ hb))
    rw [← unhide Hbf] at H1
    go_wp2_with fail
    refine (unhide H1).mono ?_
    rintro e w18 ⟨rfl, d⟩
    replace o_a := o_a.below d
    replace o_b := o_b.below d
    replace o_m := o_m.below d
    replace o_l := o_l.below d
    replace o_s := o_s.below d
    replace o_f := o_f.below d
    replace o_q := o_q.below d
    replace o_y := o_y.below d
    replace o_z := o_z.below d
    replace o_p := o_p.below d
    replace o_j := o_j.below d
    replace hb := below_after hb d
    clear d
    clear H1
    have H1 := hide (sfin_any A_f _ c_f _ f w18 o_f (by omega) (lite_rows (unhide l_f)))
    rw [← unhide Hbf] at H1
    go_wp2_with fail
    refine (unhide H1).mono ?_
    rintro e w19 ⟨rfl, d⟩
    replace o_a := o_a.below d
    replace o_b := o_b.below d
    replace o_m := o_m.below d
    replace o_l := o_l.below d
    replace o_s := o_s.below d
    replace o_f := o_f.below d
    replace o_q := o_q.below d
    replace o_y := o_y.below d
    replace o_z := o_z.below d
    replace o_p := o_p.below d
    replace o_j := o_j.below d
    replace hb := below_after hb d
    clear d
    clear H1
    have H1 := hide (isumc_any A_q _ c_q _ q w19 o_q (by omega) (lite_rows (unhide l_q)) a0 (unhide HM _ hb))
    rw [← unhide Hbq] at H1
    go_wp2_with fail
    refine (unhide H1).mono ?_
    rintro e w20 ⟨rfl, d⟩
    replace o_a := o_a.below d
    replace o_b := o_b.below d
    replace o_m := o_m.below d
    replace o_l := o_l.below d
    replace o_s := o_s.below d
    replace o_f := o_f.below d
    replace o_q := o_q.below d
    replace o_y := o_y.below d
    replace o_z := o_z.below d
    replace o_p := o_p.below d
    replace o_j := o_j.below d
    replace hb := below_after hb d
    clear d
    clear H1
    have H1 := hide (ssumc_any A_q _ c_q _ q w20 o_q (by omega) (lite_rows (unhide l_q)))
    rw [← unhide Hbq] at H1
    go_wp2_with fail
    refine (unhide H1).mono ?_
    rintro e w21 ⟨rfl, d⟩
    replace o_a := o_a.below d
    replace o_b := o_b.below d
    replace o_m := o_m.below d
    replace o_l := o_l.below d
    replace o_s := o_s.below d
    replace o_f := o_f.below d
    replace o_q := o_q.below d
    replace o_y := o_y.below d
    replace o_z := o_z.below d
    replace o_p := o_p.below d
    replace o_j := o_j.below d
    replace hb := below_after hb d
    clear d
    clear H1
    clear o_q
    go_wp2_with fail
    refine (samei_any _ _ _ _ _ _ _ _ _ _ o_p.reads o_j.reads (by omega)).mono ?_
    rintro e w22 ⟨rfl, d0⟩
    have d := d0.below w21.heap.size
    clear d0
    replace o_a := o_a.below d
    replace o_b := o_b.below d
    replace o_m := o_m.below d
    replace o_l := o_l.below d
    replace o_s := o_s.below d
    replace o_f := o_f.below d
    replace o_y := o_y.below d
    replace o_z := o_z.below d
    replace o_p := o_p.below d
    replace o_j := o_j.below d
    replace hb := below_after hb d
    clear d
    clear o_j
    have H1 := hide (iwith_any A_a A_b _ c_a _ _ c_b _ a b w22 o_a o_b (by omega) (by omega) (lite_rows (unhide l_a)) (lite_rows (unhide l_b)) a0 (unhide HM _ hb))
    rw [← unhide Hbw] at H1
    go_wp2_with fail
    refine (unhide H1).mono ?_
    rintro e w23 ⟨rfl, d⟩
    replace o_a := o_a.below d
    replace o_b := o_b.below d
    replace o_m := o_m.below d
    replace o_l := o_l.below d
    replace o_s := o_s.below d
    replace o_f := o_f.below d
    replace o_y := o_y.below d
    replace o_z := o_z.below d
    replace o_p := o_p.below d
    replace hb := below_after hb d
    clear d
    clear H1
    have H1 := hide (swith_any A_a A_b _ c_a _ _ c_b _ a b w23 o_a o_b (by omega) (by omega) (lite_rows (unhide l_a)) (lite_rows (unhide l_b)))
    rw [← unhide Hbw] at H1
    go_wp2_with fail
    refine (unhide H1).mono ?_
    rintro e w24 ⟨rfl, d⟩
    replace o_a := o_a.below d
    replace o_b := o_b.below d
    replace o_m := o_m.below d
    replace o_l := o_l.below d
    replace o_s := o_s.below d
    replace o_f := o_f.below d
    replace o_y := o_y.below d
    replace o_z := o_z.below d
    replace o_p := o_p.below d
    replace hb := below_after hb d
    clear d
    clear H1
    clear hr5 HR5 Hok1 Hm Hok3 Hs Hok7 Hp Hbq Hbw
    go_upto_region 18 with fail
    go_cut [183] from 167 to 183 (fun b9 wx => b9 = .bool false ∧ Below w24.heap.size w24 wx)
    case first =>
      replace HM := hide (fun (w' : World) (d : Below w24.heap.size w24 w') => unhide HM w' (below_after hb d))
      replace hb := Below.refl w24.heap.size w24
      cases ok7 with
      | false =>
        go_wp2_with fail
        go_meet
        exact ⟨rfl, hb⟩
      | true =>
        obtain ⟨f1, f2, f3⟩ := unhide HF7 rfl
        have F1 := hide f1.symm
        have F2 := hide f2.symm
        have F3 := hide f3.symm
        clear f1 f2 f3
        have H1 := hide (sinc_any A_y A_p _ c_y _ _ c_p _ y p w24 o_y (by omega) (lite_rows (unhide l_y)) ((unhide l_p).arg o_p (by omega)))
        rw [← unhide F1] at H1
        go_wp2_with fail
        refine (unhide H1).mono ?_
        rintro e w25 ⟨rfl, d⟩
        replace o_a := o_a.below d
        replace o_b := o_b.below d
        replace o_m := o_m.below d
        replace o_l := o_l.below d
        replace o_s := o_s.below d
        replace o_f := o_f.below d
        replace o_y := o_y.below d
        replace o_z := o_z.below d
        replace o_p := o_p.below d
        replace hb := below_after hb d
        clear d
        clear H1
        have H1 := hide (sinc_any A_z A_p _ c_z _ _ c_p _ z p w25 o_z (by omega) (lite_rows (unhide l_z)) ((unhide l_p).arg o_p (by omega)))
        rw [← unhide F2] at H1
        go_wp2_with fail
        refine (unhide H1).mono ?_
        rintro e w26 ⟨rfl, d⟩
        replace o_a := o_a.below d
        replace o_b := o_b.below d
        replace o_m := o_m.below d
        replace o_l := o_l.below d
        replace o_s := o_s.below d
        replace o_f := o_f.below d
        replace o_y := o_y.below d
        replace o_z := o_z.below d
        replace o_p := o_p.below d
        replace hb := below_after hb d
        clear d
        clear H1
        have H1 := hide (iwith_any A_y A_z _ c_y _ _ c_z _ y z w26 o_y o_z (by omega) (by omega) (lite_rows (unhide l_y)) (lite_rows (unhide l_z)) a0 (unhide HM _ hb))
        rw [← unhide F3] at H1
        go_wp2_with fail
        refine (unhide H1).mono ?_
        rintro e w27 ⟨rfl, d⟩
        replace o_a := o_a.below d
        replace o_b := o_b.below d
        replace o_m := o_m.below d
        replace o_l := o_l.below d
        replace o_s := o_s.below d
        replace o_f := o_f.below d
        replace o_y := o_y.below d
        replace o_z := o_z.below d
        replace o_p := o_p.below d
        replace hb := below_after hb d
        clear d
        clear H1
        go_wp2_with fail
        go_meet
        exact ⟨rfl, hb⟩
    case rest =>
    obtain ⟨rfl, hcx⟩ := hcut
    obtain ⟨w60, hwv⟩ : ∃ w9 : World, w9 = wc := ⟨_, rfl⟩
    rw [← hwv] at hcx ⊢
    clear hwv
    have d := hcx
    clear hcx
    replace o_a := o_a.below d
    replace o_b := o_b.below d
    replace o_m := o_m.below d
    replace o_l := o_l.below d
    replace o_s := o_s.below d
    replace o_f := o_f.below d
    replace o_y := o_y.below d
    replace o_z := o_z.below d
    replace o_p := o_p.below d
    replace hb := below_after hb d
    clear d
    clear o_y
    clear o_z
    clear o_p
    go_upto_region 20 with fail
    go_cut [196] from 184 to 196 (fun b9 wx => b9 = .bool false ∧ Below w60.heap.size w60 wx)
    case first =>
      replace HM := hide (fun (w' : World) (d : Below w60.heap.size w60 w') => unhide HM w' (below_after hb d))
      replace hb := Below.refl w60.heap.size w60
      cases ok1 with
      | false =>
        go_wp2_with fail
        go_meet
        exact ⟨rfl, hb⟩
      | true =>
        obtain ⟨f1, f2, _⟩ := unhide HF1 rfl
        have F1 := hide f1.symm
        have F2 := hide f2.symm
        clear f1 f2
        have H1 := hide (iwith_any A_m A_a _ c_m _ _ c_a _ m a w60 o_m o_a (by omega) (by omega) (lite_rows (unhide l_m)) (lite_rows (unhide l_a)) a0 (unhide HM _ hb))
        rw [← unhide F1] at H1
        go_wp2_with fail
        refine (unhide H1).mono ?_
        rintro e w61 ⟨rfl, d⟩
        replace o_a := o_a.below d
        replace o_b := o_b.below d
        replace o_m := o_m.below d
        replace o_l := o_l.below d
        replace o_s := o_s.below d
        replace o_f := o_f.below d
        replace hb := below_after hb d
        clear d
        clear H1
        have H1 := hide (iwith_any A_m A_b _ c_m _ _ c_b _ m b w61 o_m o_b (by omega) (by omega) (lite_rows (unhide l_m)) (lite_rows (unhide l_b)) a0 (unhide HM _ hb))
        rw [← unhide F2] at H1
        go_wp2_with fail
        refine (unhide H1).mono ?_
        rintro e w62 ⟨rfl, d⟩
        replace o_a := o_a.below d
        replace o_b := o_b.below d
        replace o_m := o_m.below d
        replace o_l := o_l.below d
        replace o_s := o_s.below d
        replace o_f := o_f.below d
        replace hb := below_after hb d
        clear d
        clear H1
        go_wp2_with fail
        go_meet
        exact ⟨rfl, hb⟩
    case rest =>
    obtain ⟨rfl, hcx⟩ := hcut
    obtain ⟨w65, hwv⟩ : ∃ w9 : World, w9 = wc := ⟨_, rfl⟩
    rw [← hwv] at hcx ⊢
    clear hwv
    have d := hcx
    clear hcx
    replace o_a := o_a.below d
    replace o_b := o_b.below d
    replace o_m := o_m.below d
    replace o_l := o_l.below d
    replace o_s := o_s.below d
    replace o_f := o_f.below d
    replace hb := below_after hb d
    clear d
    go_upto_region 22 with fail
    go_cut [205] from 197 to 205 (fun b9 wx => b9 = .bool false ∧ Below w65.heap.size w65 wx)
    case first =>
      replace HM := hide (fun (w' : World) (d : Below w65.heap.size w65 w') => unhide HM w' (below_after hb d))
      replace hb := Below.refl w65.heap.size w65
      cases ok3 with
      | false =>
        go_wp2_with fail
        go_meet
        exact ⟨rfl, hb⟩
      | true =>
        have F1 := hide (unhide HF3 rfl)
        obtain ⟨CN, hCN⟩ : ∃ v9, v9 = cntsR l 4 := ⟨_, rfl⟩
        rw [← hCN] at F1
        have hcn : CN.length ≤ 7 := by rw [hCN]; exact (cntsR_rows l 4).1
        have HCN := hide hCN
        clear hCN
        have H1 := hide (sccn_any A_s _ c_s _ s 4 ⟨by omega, by omega⟩ w65 o_s (by omega) (lite_rows (unhide l_s)))
        rw [unhide F1] at H1
        go_wp2_with fail
        refine (unhide H1).mono ?_
        rintro e w66 ⟨A_c, c_c, rfl, o_c, d⟩
        replace o_a := o_a.below d
        replace o_b := o_b.below d
        replace o_m := o_m.below d
        replace o_l := o_l.below d
        replace o_s := o_s.below d
        replace o_f := o_f.below d
        replace hb := below_after hb d
        clear d
        clear H1
        have H1 := hide (sccn_any A_l _ c_l _ l 4 ⟨by omega, by omega⟩ w66 o_l (by omega) (lite_rows (unhide l_l)))
        rw [← unhide HCN] at H1
        go_wp2_with fail
        refine (unhide H1).mono ?_
        rintro e w67 ⟨A_d, c_d, rfl, o_d, d⟩
        replace o_a := o_a.below d
        replace o_b := o_b.below d
        replace o_m := o_m.below d
        replace o_l := o_l.below d
        replace o_s := o_s.below d
        replace o_f := o_f.below d
        replace o_c := o_c.below d
        replace hb := below_after hb d
        clear d
        clear H1
        go_wp2_with fail
        refine (samei_any _ _ _ _ _ _ _ _ _ _ o_c.reads o_d.reads (by omega)).mono ?_
        rintro e w68 ⟨rfl, d0⟩
        have d := d0.below w67.heap.size
        clear d0
        replace o_a := o_a.below d
        replace o_b := o_b.below d
        replace o_m := o_m.below d
        replace o_l := o_l.below d
        replace o_s := o_s.below d
        replace o_f := o_f.below d
        replace o_c := o_c.below d
        replace o_d := o_d.below d
        replace hb := below_after hb d
        clear d
        go_wp2_with fail
        go_meet
        exact ⟨rfl, hb⟩
    case rest =>
    obtain ⟨rfl, hcx⟩ := hcut
    obtain ⟨w70, hwv⟩ : ∃ w9 : World, w9 = wc := ⟨_, rfl⟩
    rw [← hwv] at hcx ⊢
    clear hwv
    have d := hcx
    clear hcx
    replace o_a := o_a.below d
    replace o_b := o_b.below d
    replace o_m := o_m.below d
    replace o_l := o_l.below d
    replace o_s := o_s.below d
    replace o_f := o_f.below d
    replace hb := below_after hb d
    clear d
    clear o_s
    clear o_l
    cases ok1 with
    | false =>
      clear o_a
      clear o_b
      clear o_m
      have H1 := hide (ifin_any A_f _ c_f _ f w70 o_f (by omega) (lite_rows (unhide l_f)) a0 (unhide HM _ hb))
      rw [← unhide Hbf] at H1
      go_wp2_with fail
      refine (unhide H1).mono ?_
      rintro e w75 ⟨rfl, d⟩
      replace o_f := o_f.below d
      replace hb := below_after hb d
      clear d H1
      cases bf with
      | false =>
        go_wp2
        go_ret
        exact ⟨rfl, hb⟩
      | true =>
        have hFE := unhide H3 rfl
        obtain ⟨nf, hnf⟩ : ∃ v9, v9 = f.length := ⟨_, rfl⟩
        rw [← hnf] at o_f k_f hFE ⊢
        have HFE := hide hFE
        clear hnf hFE
        have hk0 := Below.refl w75.heap.size w75
        have hu0 := hide (upI_start f)
        have hd0 := hide (dnI_start f)
        go_wp2
        go_loopw [30, 31, 32] (fun up dn i wr => ∃ k9 u9 d9 : Nat, k9 ≤ nf ∧ i = .int .i64 k9 ∧ up = .int .i64 u9 ∧ dn = .int .i64 d9 ∧ u9 ≤ 9 ∧ d9 ≤ 9 ∧ Hid (upI f k9 u9) ∧ Hid (dnI f k9 d9) ∧ Below w75.heap.size w75 wr) (fun _ _ i _ => nf - (intOf i).toNat)
        case atStart => exact ⟨0, 0, 0, Nat.zero_le _, rfl, rfl, rfl, by omega, by omega, hu0, hd0, hk0⟩
        case round =>
          obtain ⟨k9, u9, d9, hk9, rfl, rfl, rfl, hu9, hd9, HU, HD, hbk⟩ := hrel
          clear hk0 hu0 hd0
          by_cases hlt : k9 < nf
          · obtain ⟨ad, A1, c1, g9, rfl, hz, hcell, hIz⟩ := (o_f.below hbk).at_ hlt
            have lz := (unhide l_f) _ (List.mem_of_getElem? hz)
            have hgl := lz.1
            have HZ := hide hz
            have hcl := World.block_lt_of_cell? wr _ hcell
            have HX := hide (lstr_any A1 _ c1 _ g9 wr (lz.arg hIz (by omega)))
            have HY := hide (fun (w' : World) (d : Below wr.heap.size wr w') => lback_any A1 _ c1 _ g9 w' (lz.arg (hIz.below d) (by omega)))
            have HW := hide (fun (A : Option Addr) (c B : Nat) (w' : World) (hI : Ints w' B (.slice A g9.length c) g9.reverse) => lstr_any A _ c _ g9.reverse w' ((lite_rev lz).arg hI (by omega)))
            obtain ⟨b1, hb1⟩ : ∃ v9, v9 = strP g9 := ⟨_, rfl⟩
            obtain ⟨b2, hb2⟩ : ∃ v9, v9 = strP g9.reverse := ⟨_, rfl⟩
            rw [← hb1] at HX
            rw [← hb2] at HW
            have HB1 := hide hb1
            have HB2 := hide hb2
            clear hb1 hb2 lz hIz hz
            have hrl : g9.reverse.length = g9.length := List.length_reverse
            have HRL := hide hrl
            clear hrl
            obtain ⟨lz, hlz⟩ : ∃ v9, v9 = g9.length := ⟨_, rfl⟩
            rw [← hlz] at hcell HX HY HW HRL hgl
            have HLZ := hide hlz
            clear hlz
            go_wp2_with fail
            refine (unhide HX).mono ?_
            rintro e v1 ⟨rfl, d0⟩
            have d1 := d0.below wr.heap.size
            have hc1 := (d1.cell hcl).trans hcell
            clear HX d0
            cases b1 with
            | false =>
              have HU9 := hide (upI_no (unhide HZ) (unhide HB1).symm (unhide HU) : upI f (k9 + 1) u9)
              go_wp2_with fail
              refine (unhide HY _ d1).mono ?_
              rintro e v2 ⟨A2, c2, rfl, o2, y2⟩
              rw [unhide HRL] at o2 ⊢
              have d2 := below_after d1 y2
              have hc2 := (d2.cell hcl).trans hcell
              have HV := hide (unhide HW _ _ _ _ o2)
              clear HY HW d1 hc1 y2 o2
              go_wp2_with fail
              refine (unhide HV).mono ?_
              rintro e v3 ⟨rfl, y3⟩
              have d3 := below_after d2 (y3.below v2.heap.size)
              have hc3 := (d3.cell hcl).trans hcell
              have hbk2 := below_after hbk d3
              clear HV d2 hc2 y3 d3 hcell hcl hbk
              cases b2 with
              | false =>
                have HD9 := hide (dnI_no (unhide HZ) (unhide HB2).symm (unhide HD) : dnI f (k9 + 1) d9)
                go_wp2
                go_roundw
                case rel => exact ⟨k9 + 1, u9, d9, by omega, by go_num, rfl, rfl, by omega, by omega, HU9, HD9, hbk2⟩
                case measure => simp [intOf]; omega
              | true =>
                have HD9 := hide (by rw [unhide HLZ]; exact dnI_yes (unhide HZ) (unhide HB2).symm : dnI f (k9 + 1) lz)
                go_wp2
                go_roundw
                case rel => exact ⟨k9 + 1, u9, lz, by omega, by go_num, rfl, rfl, by omega, by omega, HU9, HD9, hbk2⟩
                case measure => simp [intOf]; omega
            | true =>
              have HU9 := hide (by rw [unhide HLZ]; exact upI_yes (unhide HZ) (unhide HB1).symm : upI f (k9 + 1) lz)
              go_wp2_with fail
              refine (unhide HY _ d1).mono ?_
              rintro e v2 ⟨A2, c2, rfl, o2, y2⟩
              rw [unhide HRL] at o2 ⊢
              have d2 := below_after d1 y2
              have hc2 := (d2.cell hcl).trans hcell
              have HV := hide (unhide HW _ _ _ _ o2)
              clear HY HW d1 hc1 y2 o2
              go_wp2_with fail
              refine (unhide HV).mono ?_
              rintro e v3 ⟨rfl, y3⟩
              have d3 := below_after d2 (y3.below v2.heap.size)
              have hc3 := (d3.cell hcl).trans hcell
              have hbk2 := below_after hbk d3
              clear HV d2 hc2 y3 d3 hcell hcl hbk
              cases b2 with
              | false =>
                have HD9 := hide (dnI_no (unhide HZ) (unhide HB2).symm (unhide HD) : dnI f (k9 + 1) d9)
                go_wp2
                go_roundw
                case rel => exact ⟨k9 + 1, lz, d9, by omega, by go_num, rfl, rfl, by omega, by omega, HU9, HD9, hbk2⟩
                case measure => simp [intOf]; omega
              | true =>
                have HD9 := hide (by rw [unhide HLZ]; exact dnI_yes (unhide HZ) (unhide HB2).symm : dnI f (k9 + 1) lz)
                go_wp2
                go_roundw
                case rel => exact ⟨k9 + 1, lz, lz, by omega, by go_num, rfl, rfl, by omega, by omega, HU9, HD9, hbk2⟩
                case measure => simp [intOf]; omega
          · obtain rfl : nf = k9 := by omega
            obtain ⟨hu1, hd1, hcl9⟩ := unhide HFE u9 d9 (unhide HU) (unhide HD)
            replace o_f := o_f.below hbk
            replace hb := below_after hb hbk
            obtain ⟨u8, rfl⟩ : ∃ v9, u9 = v9 + 1 := ⟨u9 - 1, by omega⟩
            obtain ⟨d8, rfl⟩ : ∃ v9, d9 = v9 + 1 := ⟨d9 - 1, by omega⟩
            obtain ⟨mm, hmm⟩ : ∃ v9, v9 = u8 * d8 := ⟨_, rfl⟩
            rw [show (u8 + 1 - 1) * (d8 + 1 - 1) = mm by rw [hmm]; rfl] at hcl9
            have hml : mm ≤ 64 := by rw [hmm]; exact Nat.le_trans (Nat.mul_le_mul (show u8 ≤ 8 by omega) (show d8 ≤ 8 by omega)) (by decide)
            have hw1 : IntKind.i64.wrap (((u8 + 1 : Nat) : Int) - 1) = (u8 : Int) := by rw [IntKind.wrap_i64]; omega
            have hw2 : IntKind.i64.wrap (((d8 + 1 : Nat) : Int) - 1) = (d8 : Int) := by rw [IntKind.wrap_i64]; omega
            have hw3 : IntKind.i64.wrap ((u8 : Int) * (d8 : Int)) = (mm : Int) := by rw [← Int.natCast_mul, ← hmm, IntKind.wrap_i64]; omega
            have HCE := hide hcl9
            clear hcl9 hmm
            by_cases hm6 : mm < 6
            · have hm6i : (mm : Int) < 6 := by omega
              have hw4 : IntKind.i64.wrap ((mm : Int) + 1) = (mm : Int) + 1 := by rw [IntKind.wrap_i64]; omega
              have H1 := hide (sclo_any A_f _ c_f _ f ((mm : Int) + 1) ⟨by omega, by omega⟩ wr o_f (by omega) (lite_rows (unhide l_f)))
              rw [show ((mm : Int) + 1) = ((mm + 1 : Nat) : Int) by omega, unhide HCE hm6, show ((mm + 1 : Nat) : Int) = (mm : Int) + 1 by omega] at H1
              have HWS := hide (⟨hw1, hw2, hw3, hw4⟩ : _ ∧ _ ∧ _ ∧ _)
              go_wp2_with fail
              refine (unhide H1).mono ?_
              rintro e v1 ⟨A2, c2, rfl, o2, y2⟩
              replace hb := below_after hb y2
              clear H1 o2 y2
              go_wp2
              go_ret
              exact ⟨rfl, hb⟩
            · have hm6i : ¬ (mm : Int) < 6 := by omega
              have hm6b : decide ((mm : Int) < 6) = false := decide_eq_false hm6i
              go_wp2
              go_ret
              exact ⟨rfl, hb⟩
    | true =>
      have HMI := hide (unhide HF1 rfl).2.2
      have H1 := hide (sperms_any 4 (by omega) w70)
      rw [show permsR (4 : Int) = permL 4 from permsR_yes (n := 4) (by omega)] at H1
      have hZn := (permL_small 4 (by omega)).1
      have HZF := hide (fun (j : Nat) (z : List Int) (hz : (permL 4)[j]? = some z) => (lite_P (permL_mem 4 (by omega) z (List.mem_of_getElem? hz)).1))
      obtain ⟨Z, hZ⟩ : ∃ v9, v9 = permL 4 := ⟨_, rfl⟩
      rw [← hZ] at H1 hZn HZF
      clear hZ
      go_wp2_with fail
      refine (unhide H1).mono ?_
      rintro e w71 ⟨A_k, c_k, rfl, o_k, d⟩
      replace o_a := o_a.below d
      replace o_b := o_b.below d
      replace o_m := o_m.below d
      replace o_f := o_f.below d
      replace hb := below_after hb d
      clear d
      clear H1
      obtain ⟨NZ, hNZ⟩ : ∃ v9, v9 = Z.length := ⟨_, rfl⟩
      rw [← hNZ] at o_k hZn ⊢
      clear hNZ
      have hk0 := Below.refl w71.heap.size w71
      have hbw := hb
      go_wp2
      go_loopw [29] (fun i wr => ∃ k9 : Nat, k9 ≤ NZ ∧ i = .int .i64 k9 ∧ Below w71.heap.size w71 wr) (fun i _ => NZ - (intOf i).toNat)
      case atStart => exact ⟨0, Nat.zero_le _, rfl, hk0⟩
      case round =>
        obtain ⟨k9, hk9, rfl, hbk⟩ := hrel
        clear hk0
        by_cases hlt : k9 < NZ
        · obtain ⟨ad, A1, c1, g9, rfl, hz, hcell, hIz⟩ := (o_k.below hbk).at_ hlt
          have lz := unhide HZF _ _ hz
          have hmi := unhide HMI g9
          obtain ⟨bM, hbM⟩ : ∃ v9, v9 = inC m g9 := ⟨_, rfl⟩
          obtain ⟨bA, hbA⟩ : ∃ v9, v9 = inC a g9 := ⟨_, rfl⟩
          obtain ⟨bB, hbB⟩ : ∃ v9, v9 = inC b g9 := ⟨_, rfl⟩
          have HXm := hide (fun (w' : World) (hb' : Below wr.heap.size wr w') => sinc_any A_m A1 _ c_m _ _ c1 _ m g9 w' ((o_m.below hbk).below hb') (by omega) (lite_rows (unhide l_m)) (lz.arg (hIz.below hb') (by omega)))
          rw [← hbM] at HXm
          have HXa := hide (fun (w' : World) (hb' : Below wr.heap.size wr w') => sinc_any A_a A1 _ c_a _ _ c1 _ a g9 w' ((o_a.below hbk).below hb') (by omega) (lite_rows (unhide l_a)) (lz.arg (hIz.below hb') (by omega)))
          rw [← hbA] at HXa
          have HXb := hide (fun (w' : World) (hb' : Below wr.heap.size wr w') => sinc_any A_b A1 _ c_b _ _ c1 _ b g9 w' ((o_b.below hbk).below hb') (by omega) (lite_rows (unhide l_b)) (lz.arg (hIz.below hb') (by omega)))
          rw [← hbB] at HXb
          rw [← hbM, ← hbA, ← hbB] at hmi
          clear hbM hbA hbB lz hIz hz
          obtain ⟨lz, hlz⟩ : ∃ v9, v9 = g9.length := ⟨_, rfl⟩
          rw [← hlz] at hcell HXm HXa HXb
          clear hlz
          have hcl := World.block_lt_of_cell? wr _ hcell
          have hb0 : Below wr.heap.size wr wr.drew := (Below.refl _ _).drew
          subst hmi
          have hki : (k9 : Int) < (NZ : Int) := by omega
          have hk0i : (0 : Int) ≤ (k9 : Int) := by omega
          cases bA with
          | false =>
            go_wp2
            have hb9 := hb0
            clear hb0
            refine wp_region_held_drew (S := fun w' => w'.cell? (ad.add k9) = some (.slice A1 lz c1) ∧ Below wr.heap.size wr w') (by kernel_rfl) ?_ (fun hHeld0 => ?_)
            · exact keep1 hcell hcl hb9
            refine wpAnyH_take (i := 0) (v := ?_) rfl (by kernel_rfl) (by kernel_rfl) (by kernel_rfl) (fun _ _ _ h => h) (Or.inl ⟨by rfl, ?_⟩) (by assumption) ?_
            rotate_left
            · intro w9 hSw
              (try dsimp only at hSw)
              obtain ⟨hSw, _⟩ := hSw
              go_simp
              all_goals with_reducible rfl
            simp only [Act.put, List.getElem_toArray, List.getElem_cons_zero, List.setIfInBounds_toArray, List.set_cons_zero, List.set_cons_succ]
            refine wpAnyH_take (i := 1) (v := ?_) rfl (by kernel_rfl) (by kernel_rfl) (by kernel_rfl) (fun _ _ _ h => h) (Or.inl ⟨by rfl, ?_⟩) (by assumption) ?_
            rotate_left
            · intro w9 hSw
              (try dsimp only at hSw)
              obtain ⟨hSw, _⟩ := hSw
              go_simp
              all_goals with_reducible rfl
            simp only [Act.put, List.getElem_toArray, List.getElem_cons_succ, List.getElem_cons_zero, List.setIfInBounds_toArray, List.set_cons_zero, List.set_cons_succ]
            refine wpAnyH_take (i := 2) (v := ?_) rfl (by kernel_rfl) (by kernel_rfl) (by kernel_rfl) (fun _ _ _ h => h) (Or.inl ⟨by rfl, ?_⟩) (by assumption) ?_
            rotate_left
            · intro w9 hSw
              (try dsimp only at hSw)
              obtain ⟨hSw, _⟩ := hSw
              go_simp
              all_goals with_reducible rfl
            simp only [Act.put, List.getElem_toArray, List.getElem_cons_succ, List.getElem_cons_zero, List.setIfInBounds_toArray, List.set_cons_zero, List.set_cons_succ]
            refine wpAnyH_take (i := 3) (v := ?_) rfl (by kernel_rfl) (by kernel_rfl) (by kernel_rfl) (fun _ _ _ h => h) (Or.inl ⟨by rfl, ?_⟩) (by assumption) ?_
            rotate_left
            · intro w9 hSw
              (try dsimp only at hSw)
              obtain ⟨hSw, _⟩ := hSw
              go_simp
              all_goals with_reducible rfl
            simp only [Act.put, List.getElem_toArray, List.getElem_cons_succ, List.getElem_cons_zero, List.setIfInBounds_toArray, List.set_cons_zero, List.set_cons_succ]
            refine wpAnyH_take (i := 4) (v := ?_) rfl (by kernel_rfl) (by kernel_rfl) (by kernel_rfl) (fun _ _ _ h => h) (Or.inl ⟨by rfl, ?_⟩) (by assumption) ?_
            rotate_left
            · intro w9 hSw
              (try dsimp only at hSw)
              obtain ⟨hSw, _⟩ := hSw
              go_simp
              all_goals with_reducible rfl
            simp only [Act.put, List.getElem_toArray, List.getElem_cons_succ, List.getElem_cons_zero, List.setIfInBounds_toArray, List.set_cons_zero, List.set_cons_succ]
            refine wpAnyH_take (i := 6) (v := ?_) rfl (by kernel_rfl) (by kernel_rfl) (by kernel_rfl) (fun _ _ _ h => h) (Or.inl ⟨by rfl, ?_⟩) (by assumption) ?_
            rotate_left
            · intro w9 hSw
              (try dsimp only at hSw)
              obtain ⟨hSw, _⟩ := hSw
              go_simp
              all_goals with_reducible rfl
            simp only [Act.put, List.getElem_toArray, List.getElem_cons_succ, List.getElem_cons_zero, List.setIfInBounds_toArray, List.set_cons_zero, List.set_cons_succ]
            refine wpAnyH_take (i := 7) (v := ?_) rfl (by kernel_rfl) (by kernel_rfl) (by kernel_rfl) (fun _ _ _ h => h) (Or.inl ⟨by rfl, ?_⟩) (by assumption) ?_
            rotate_left
            · intro w9 hSw
              (try dsimp only at hSw)
              obtain ⟨hSw, _⟩ := hSw
              go_simp
              all_goals with_reducible rfl
            simp only [Act.put, List.getElem_toArray, List.getElem_cons_succ, List.getElem_cons_zero, List.setIfInBounds_toArray, List.set_cons_zero, List.set_cons_succ]
            refine wpAnyH_take (i := 8) (v := ?_) rfl (by kernel_rfl) (by kernel_rfl) (by kernel_rfl) (fun _ _ _ h => h) (Or.inl ⟨by rfl, ?_⟩) (by assumption) ?_
            rotate_left
            · intro w9 hSw
              (try dsimp only at hSw)
              obtain ⟨hSw, _⟩ := hSw
              go_simp
              all_goals with_reducible rfl
            simp only [Act.put, List.getElem_toArray, List.getElem_cons_succ, List.getElem_cons_zero, List.setIfInBounds_toArray, List.set_cons_zero, List.set_cons_succ]
            refine wpAnyH_take (i := 9) (v := ?_) rfl (by kernel_rfl) (by kernel_rfl) (by kernel_rfl) (fun _ _ _ h => h) (Or.inl ⟨by rfl, ?_⟩) (by assumption) ?_
            rotate_left
            · intro w9 hSw
              (try dsimp only at hSw)
              obtain ⟨hSw, _⟩ := hSw
              go_simp
              all_goals with_reducible rfl
            simp only [Act.put, List.getElem_toArray, List.getElem_cons_succ, List.getElem_cons_zero, List.setIfInBounds_toArray, List.set_cons_zero, List.set_cons_succ]
            refine wpAnyH_take (i := 10) (v := ?_) rfl (by kernel_rfl) (by kernel_rfl) (by kernel_rfl) (fun _ _ _ h => h) (Or.inl ⟨by rfl, ?_⟩) (by assumption) ?_
            rotate_left
            · intro w9 hSw
              (try dsimp only at hSw)
              obtain ⟨hSw, _⟩ := hSw
              go_simp
              all_goals with_reducible rfl
            simp only [Act.put, List.getElem_toArray, List.getElem_cons_succ, List.getElem_cons_zero, List.setIfInBounds_toArray, List.set_cons_zero, List.set_cons_succ]
            refine wpAnyH_ready (rs := [5]) (by kernel_rfl) (by simp) ?_
            refine AllReadyH.cons rfl (fun K hK => ?_) (AllReadyH.nil)
            have g9 := hb9
            clear hb9
            go_simp
            go_at_call 28
            refine (unhide HXm _ g9).mono ?_
            rintro e v1 ⟨rfl, y9⟩
            have hb9 := below_after g9 y9
            clear g9 y9
            refine hK.out _ _ ?_ (fun hHeld1 => ?_)
            · (try dsimp only)
              exact keep1 hcell hcl hb9
            clear hK K
            try simp only [Act.put, List.setIfInBounds_toArray, List.set_cons_zero, List.set_cons_succ]
            refine wpAnyH_ready (rs := [11]) (by kernel_rfl) (by simp) ?_
            refine AllReadyH.cons rfl (fun K hK => ?_) (AllReadyH.nil)
            have g9 := hb9
            clear hb9
            go_simp
            go_at_call 28
            refine (unhide HXa _ g9).mono ?_
            rintro e v2 ⟨rfl, y9⟩
            have hb9 := below_after g9 y9
            clear g9 y9
            refine hK.out _ _ ?_ (fun hHeld2 => ?_)
            · (try dsimp only)
              exact keep1 hcell hcl hb9
            clear hK K
            try simp only [Act.put, List.setIfInBounds_toArray, List.set_cons_zero, List.set_cons_succ]
            refine wpAnyH_take (i := 12) (v := ?_) rfl (by kernel_rfl) (by kernel_rfl) (by kernel_rfl) (fun _ _ _ h => h) (Or.inl ⟨by rfl, ?_⟩) (by assumption) ?_
            rotate_left
            · intro w9 hSw
              (try dsimp only at hSw)
              obtain ⟨hSw, _⟩ := hSw
              go_simp
              all_goals with_reducible rfl
            simp only [Act.put, List.getElem_toArray, List.getElem_cons_succ, List.getElem_cons_zero, List.setIfInBounds_toArray, List.set_cons_zero, List.set_cons_succ]
            refine wpAnyH_take (i := 13) (v := undef) rfl (by kernel_rfl) (by kernel_rfl) (by kernel_rfl) (fun _ _ _ h => h) (Or.inr ⟨by rfl, rfl⟩) (by assumption) ?_
            simp only [Act.put, List.getElem_toArray, List.getElem_cons_succ, List.getElem_cons_zero, List.setIfInBounds_toArray, List.set_cons_zero, List.set_cons_succ]
            refine wpAnyH_take (i := 14) (v := undef) rfl (by kernel_rfl) (by kernel_rfl) (by kernel_rfl) (fun _ _ _ h => h) (Or.inr ⟨by rfl, rfl⟩) (by assumption) ?_
            simp only [Act.put, List.getElem_toArray, List.getElem_cons_succ, List.getElem_cons_zero, List.setIfInBounds_toArray, List.set_cons_zero, List.set_cons_succ]
            refine wpAnyH_take (i := 15) (v := undef) rfl (by kernel_rfl) (by kernel_rfl) (by kernel_rfl) (fun _ _ _ h => h) (Or.inr ⟨by rfl, rfl⟩) (by assumption) ?_
            simp only [Act.put, List.getElem_toArray, List.getElem_cons_succ, List.getElem_cons_zero, List.setIfInBounds_toArray, List.set_cons_zero, List.set_cons_succ]
            refine wpAnyH_take (i := 16) (v := undef) rfl (by kernel_rfl) (by kernel_rfl) (by kernel_rfl) (fun _ _ _ h => h) (Or.inr ⟨by rfl, rfl⟩) (by assumption) ?_
            simp only [Act.put, List.getElem_toArray, List.getElem_cons_succ, List.getElem_cons_zero, List.setIfInBounds_toArray, List.set_cons_zero, List.set_cons_succ]
            refine wpAnyH_take (i := 17) (v := undef) rfl (by kernel_rfl) (by kernel_rfl) (by kernel_rfl) (fun _ _ _ h => h) (Or.inr ⟨by rfl, rfl⟩) (by assumption) ?_
            simp only [Act.put, List.getElem_toArray, List.getElem_cons_succ, List.getElem_cons_zero, List.setIfInBounds_toArray, List.set_cons_zero, List.set_cons_succ]
            refine wpAnyH_take (i := 18) (v := undef) rfl (by kernel_rfl) (by kernel_rfl) (by kernel_rfl) (fun _ _ _ h => h) (Or.inr ⟨by rfl, rfl⟩) (by assumption) ?_
            simp only [Act.put, List.getElem_toArray, List.getElem_cons_succ, List.getElem_cons_zero, List.setIfInBounds_toArray, List.set_cons_zero, List.set_cons_succ]
            refine wpAnyH_take (i := 19) (v := ?_) rfl (by kernel_rfl) (by kernel_rfl) (by kernel_rfl) (fun _ _ _ h => h) (Or.inl ⟨by rfl, ?_⟩) (by assumption) ?_
            rotate_left
            · intro w9 hSw
              (try dsimp only at hSw)
              obtain ⟨hSw, _⟩ := hSw
              go_simp
              all_goals with_reducible rfl
            simp only [Act.put, List.getElem_toArray, List.getElem_cons_succ, List.getElem_cons_zero, List.setIfInBounds_toArray, List.set_cons_zero, List.set_cons_succ]
            refine wpAnyH_take (i := 20) (v := ?_) rfl (by kernel_rfl) (by kernel_rfl) (by kernel_rfl) (fun _ _ _ h => h) (Or.inl ⟨by rfl, ?_⟩) (by assumption) ?_
            rotate_left
            · intro w9 hSw
              (try dsimp only at hSw)
              obtain ⟨hSw, _⟩ := hSw
              go_simp
              all_goals with_reducible rfl
            simp only [Act.put, List.getElem_toArray, List.getElem_cons_succ, List.getElem_cons_zero, List.setIfInBounds_toArray, List.set_cons_zero, List.set_cons_succ]
            refine wpAnyH_done (by kernel_rfl) ?_ _
            have hbk2 := below_after hbk hb9
            clear hb9 HXm HXa HXb hcell hbk hcl hHeld0 hHeld1 hHeld2
            go_wp2
            go_roundw
            case rel => exact ⟨k9 + 1, by omega, by go_num, hbk2⟩
            case measure => simp [intOf]; omega
          | true =>
            cases bB with
            | false =>
              go_wp2
              go_region_held3 (fun w' => w'.cell? (ad.add k9) = some (.slice A1 lz c1) ∧ Below wr.heap.size wr w') ((refine keep1 hcell hcl ?_; first | assumption | (apply Below.drew; assumption)))
                (first
                  | (have g0 := hb0; clear hb0; go_simp; go_at_call 28; refine (unhide HXm _ g0).mono ?_; rintro e v1 ⟨rfl, y0⟩; have hb1 := below_after g0 y0)
                  | (have g1 := hb1; clear hb1; go_simp; go_at_call 28; refine (unhide HXa _ g1).mono ?_; rintro e v2 ⟨rfl, y1⟩; have hb2 := below_after g1 y1)
                  | (have g2 := hb2; clear hb2; go_simp; go_at_call 28; refine (unhide HXb _ g2).mono ?_; rintro e v3 ⟨rfl, y2⟩; have hb3 := below_after g2 y2))
              have hbk2 := below_after hbk hb3
              clear hb3 HXm HXa HXb hcell hbk hcl
              go_wp2
              go_roundw
              case rel => exact ⟨k9 + 1, by omega, by go_num, hbk2⟩
              case measure => simp [intOf]; omega
            | true =>
              go_wp2
              go_region_held3 (fun w' => w'.cell? (ad.add k9) = some (.slice A1 lz c1) ∧ Below wr.heap.size wr w') ((refine keep1 hcell hcl ?_; first | assumption | (apply Below.drew; assumption)))
                (first
                  | (have g0 := hb0; clear hb0; go_simp; go_at_call 28; refine (unhide HXm _ g0).mono ?_; rintro e v1 ⟨rfl, y0⟩; have hb1 := below_after g0 y0)
                  | (have g1 := hb1; clear hb1; go_simp; go_at_call 28; refine (unhide HXa _ g1).mono ?_; rintro e v2 ⟨rfl, y1⟩; have hb2 := below_after g1 y1)
                  | (have g2 := hb2; clear hb2; go_simp; go_at_call 28; refine (unhide HXb _ g2).mono ?_; rintro e v3 ⟨rfl, y2⟩; have hb3 := below_after g2 y2))
              have hbk2 := below_after hbk hb3
              clear hb3 HXm HXa HXb hcell hbk hcl
              go_wp2
              go_roundw
              case rel => exact ⟨k9 + 1, by omega, by go_num, hbk2⟩
              case measure => simp [intOf]; omega
        · obtain rfl : NZ = k9 := by omega
          clear o_k
          clear o_a
          clear o_b
          clear o_m
          replace o_f := o_f.below hbk
          replace hb := below_after hb hbk
          clear hbk hlt hk9 hbw HMI HZF
          obtain ⟨w70b, rfl⟩ : ∃ wu, wu = wr := ⟨_, rfl⟩
          have H1 := hide (ifin_any A_f _ c_f _ f w70b o_f (by omega) (lite_rows (unhide l_f)) a0 (unhide HM _ hb))
          rw [← unhide Hbf] at H1
          go_wp2_with fail
          refine (unhide H1).mono ?_
          rintro e w75 ⟨rfl, d⟩
          replace o_f := o_f.below d
          replace hb := below_after hb d
          clear d H1
          cases bf with
          | false =>
            go_wp2
            go_ret
            exact ⟨rfl, hb⟩
          | true =>
            have hFE := unhide H3 rfl
            obtain ⟨nf, hnf⟩ : ∃ v9, v9 = f.length := ⟨_, rfl⟩
            rw [← hnf] at o_f k_f hFE ⊢
            have HFE := hide hFE
            clear hnf hFE
            have hk0 := Below.refl w75.heap.size w75
            have hu0 := hide (upI_start f)
            have hd0 := hide (dnI_start f)
            go_wp2
            go_loopw [30, 31, 32] (fun up dn i wr => ∃ k9 u9 d9 : Nat, k9 ≤ nf ∧ i = .int .i64 k9 ∧ up = .int .i64 u9 ∧ dn = .int .i64 d9 ∧ u9 ≤ 9 ∧ d9 ≤ 9 ∧ Hid (upI f k9 u9) ∧ Hid (dnI f k9 d9) ∧ Below w75.heap.size w75 wr) (fun _ _ i _ => nf - (intOf i).toNat)
            case atStart => exact ⟨0, 0, 0, Nat.zero_le _, rfl, rfl, rfl, by omega, by omega, hu0, hd0, hk0⟩
            case round =>
              obtain ⟨k9, u9, d9, hk9, rfl, rfl, rfl, hu9, hd9, HU, HD, hbk⟩ := hrel
              clear hk0 hu0 hd0
              by_cases hlt : k9 < nf
              · obtain ⟨ad, A1, c1, g9, rfl, hz, hcell, hIz⟩ := (o_f.below hbk).at_ hlt
                have lz := (unhide l_f) _ (List.mem_of_getElem? hz)
                have hgl := lz.1
                have HZ := hide hz
                have hcl := World.block_lt_of_cell? wr _ hcell
                have HX := hide (lstr_any A1 _ c1 _ g9 wr (lz.arg hIz (by omega)))
                have HY := hide (fun (w' : World) (d : Below wr.heap.size wr w') => lback_any A1 _ c1 _ g9 w' (lz.arg (hIz.below d) (by omega)))
                have HW := hide (fun (A : Option Addr) (c B : Nat) (w' : World) (hI : Ints w' B (.slice A g9.length c) g9.reverse) => lstr_any A _ c _ g9.reverse w' ((lite_rev lz).arg hI (by omega)))
                obtain ⟨b1, hb1⟩ : ∃ v9, v9 = strP g9 := ⟨_, rfl⟩
                obtain ⟨b2, hb2⟩ : ∃ v9, v9 = strP g9.reverse := ⟨_, rfl⟩
                rw [← hb1] at HX
                rw [← hb2] at HW
                have HB1 := hide hb1
                have HB2 := hide hb2
                clear hb1 hb2 lz hIz hz
                have hrl : g9.reverse.length = g9.length := List.length_reverse
                have HRL := hide hrl
                clear hrl
                obtain ⟨lz, hlz⟩ : ∃ v9, v9 = g9.length := ⟨_, rfl⟩
                rw [← hlz] at hcell HX HY HW HRL hgl
                have HLZ := hide hlz
                clear hlz
                go_wp2_with fail
                refine (unhide HX).mono ?_
                rintro e v1 ⟨rfl, d0⟩
                have d1 := d0.below wr.heap.size
                have hc1 := (d1.cell hcl).trans hcell
                clear HX d0
                cases b1 with
                | false =>
                  have HU9 := hide (upI_no (unhide HZ) (unhide HB1).symm (unhide HU) : upI f (k9 + 1) u9)
                  go_wp2_with fail
                  refine (unhide HY _ d1).mono ?_
                  rintro e v2 ⟨A2, c2, rfl, o2, y2⟩
                  rw [unhide HRL] at o2 ⊢
                  have d2 := below_after d1 y2
                  have hc2 := (d2.cell hcl).trans hcell
                  have HV := hide (unhide HW _ _ _ _ o2)
                  clear HY HW d1 hc1 y2 o2
                  go_wp2_with fail
                  refine (unhide HV).mono ?_
                  rintro e v3 ⟨rfl, y3⟩
                  have d3 := below_after d2 (y3.below v2.heap.size)
                  have hc3 := (d3.cell hcl).trans hcell
                  have hbk2 := below_after hbk d3
                  clear HV d2 hc2 y3 d3 hcell hcl hbk
                  cases b2 with
                  | false =>
                    have HD9 := hide (dnI_no (unhide HZ) (unhide HB2).symm (unhide HD) : dnI f (k9 + 1) d9)
                    go_wp2
                    go_roundw
                    case rel => exact ⟨k9 + 1, u9, d9, by omega, by go_num, rfl, rfl, by omega, by omega, HU9, HD9, hbk2⟩
                    case measure => simp [intOf]; omega
                  | true =>
                    have HD9 := hide (by rw [unhide HLZ]; exact dnI_yes (unhide HZ) (unhide HB2).symm : dnI f (k9 + 1) lz)
                    go_wp2
                    go_roundw
                    case rel => exact ⟨k9 + 1, u9, lz, by omega, by go_num, rfl, rfl, by omega, by omega, HU9, HD9, hbk2⟩
                    case measure => simp [intOf]; omega
                | true =>
                  have HU9 := hide (by rw [unhide HLZ]; exact upI_yes (unhide HZ) (unhide HB1).symm : upI f (k9 + 1) lz)
                  go_wp2_with fail
                  refine (unhide HY _ d1).mono ?_
                  rintro e v2 ⟨A2, c2, rfl, o2, y2⟩
                  rw [unhide HRL] at o2 ⊢
                  have d2 := below_after d1 y2
                  have hc2 := (d2.cell hcl).trans hcell
                  have HV := hide (unhide HW _ _ _ _ o2)
                  clear HY HW d1 hc1 y2 o2
                  go_wp2_with fail
                  refine (unhide HV).mono ?_
                  rintro e v3 ⟨rfl, y3⟩
                  have d3 := below_after d2 (y3.below v2.heap.size)
                  have hc3 := (d3.cell hcl).trans hcell
                  have hbk2 := below_after hbk d3
                  clear HV d2 hc2 y3 d3 hcell hcl hbk
                  cases b2 with
                  | false =>
                    have HD9 := hide (dnI_no (unhide HZ) (unhide HB2).symm (unhide HD) : dnI f (k9 + 1) d9)
                    go_wp2
                    go_roundw
                    case rel => exact ⟨k9 + 1, lz, d9, by omega, by go_num, rfl, rfl, by omega, by omega, HU9, HD9, hbk2⟩
                    case measure => simp [intOf]; omega
                  | true =>
                    have HD9 := hide (by rw [unhide HLZ]; exact dnI_yes (unhide HZ) (unhide HB2).symm : dnI f (k9 + 1) lz)
                    go_wp2
                    go_roundw
                    case rel => exact ⟨k9 + 1, lz, lz, by omega, by go_num, rfl, rfl, by omega, by omega, HU9, HD9, hbk2⟩
                    case measure => simp [intOf]; omega
              · obtain rfl : nf = k9 := by omega
                obtain ⟨hu1, hd1, hcl9⟩ := unhide HFE u9 d9 (unhide HU) (unhide HD)
                replace o_f := o_f.below hbk
                replace hb := below_after hb hbk
                obtain ⟨u8, rfl⟩ : ∃ v9, u9 = v9 + 1 := ⟨u9 - 1, by omega⟩
                obtain ⟨d8, rfl⟩ : ∃ v9, d9 = v9 + 1 := ⟨d9 - 1, by omega⟩
                obtain ⟨mm, hmm⟩ : ∃ v9, v9 = u8 * d8 := ⟨_, rfl⟩
                rw [show (u8 + 1 - 1) * (d8 + 1 - 1) = mm by rw [hmm]; rfl] at hcl9
                have hml : mm ≤ 64 := by rw [hmm]; exact Nat.le_trans (Nat.mul_le_mul (show u8 ≤ 8 by omega) (show d8 ≤ 8 by omega)) (by decide)
                have hw1 : IntKind.i64.wrap (((u8 + 1 : Nat) : Int) - 1) = (u8 : Int) := by rw [IntKind.wrap_i64]; omega
                have hw2 : IntKind.i64.wrap (((d8 + 1 : Nat) : Int) - 1) = (d8 : Int) := by rw [IntKind.wrap_i64]; omega
                have hw3 : IntKind.i64.wrap ((u8 : Int) * (d8 : Int)) = (mm : Int) := by rw [← Int.natCast_mul, ← hmm, IntKind.wrap_i64]; omega
                have HCE := hide hcl9
                clear hcl9 hmm
                by_cases hm6 : mm < 6
                · have hm6i : (mm : Int) < 6 := by omega
                  have hw4 : IntKind.i64.wrap ((mm : Int) + 1) = (mm : Int) + 1 := by rw [IntKind.wrap_i64]; omega
                  have H1 := hide (sclo_any A_f _ c_f _ f ((mm : Int) + 1) ⟨by omega, by omega⟩ wr o_f (by omega) (lite_rows (unhide l_f)))
                  rw [show ((mm : Int) + 1) = ((mm + 1 : Nat) : Int) by omega, unhide HCE hm6, show ((mm + 1 : Nat) : Int) = (mm : Int) + 1 by omega] at H1
                  have HWS := hide (⟨hw1, hw2, hw3, hw4⟩ : _ ∧ _ ∧ _ ∧ _)
                  go_wp2_with fail
                  refine (unhide H1).mono ?_
                  rintro e v1 ⟨A2, c2, rfl, o2, y2⟩
                  replace hb := below_after hb y2
                  clear H1 o2 y2
                  go_wp2
                  go_ret
                  exact ⟨rfl, hb⟩
                · have hm6i : ¬ (mm : Int) < 6 := by omega
                  have hm6b : decide ((mm : Int) < 6) = false := decide_eq_false hm6i
                  go_wp2
                  go_ret
                  exact ⟨rfl, hb⟩
  · rw [show decide (1048576 < n) = true from decide_eq_true (by omega)] at HG
    clear hr hn HM
    go_enter Tryz.func3, Tryz.ntmps3
    go_wp2_with fail
    refine (unhide HG).mono ?_
    rintro e w0 ⟨rfl, rfl⟩
    go_wp2
    go_ret
    exact ⟨rfl, Below.refl _ _⟩
theorem params_ok : ∀ t ∈ (#[22] : Array TypeId).toList, Tryz.prog.readableRec t = true ∧ t < Tryz.prog.types.size := by
  intro t ht
  simp only [List.mem_cons, List.not_mem_nil, or_false] at ht
  subst ht
  exact ⟨by kernel_rfl, of_decide_eq_true (by kernel_rfl)⟩

set_option maxRecDepth 100000 in
/-- WHAT THE WALK GIVES, FOR EVERY ARGUMENT. -/
theorem contract (H : Type) (enc : TypeId × Value → H) (W : World) (base : Nat) (args : Array Value) (ds gs : List (DataW H)) (before : List MemPlace)
    (hval : ∀ (j : Nat) t v, Tryz.f3.params[j]? = some t → args[j]? = some v → Value.okWide Tryz.prog W .any base t v)
    (hW : DataW.Whole enc Tryz.prog Tryz.f3.params.toList Rows.fnMeetsSpec.vars false W args.toList ds gs before) (hL : laidMetH Tryz.prog Rows.fnMeetsRow.laid W) :
    Calls Tryz.prog 3 args W fun e W' => ∃ v, e = .returned v ∧ Rows.fnMeetsSpec.post enc Tryz.prog Tryz.f3 false true false false W args v W' := by
  have hW' := hW
  obtain ⟨p, q, hA0, hV, rfl, hfz, hnd⟩ := hW
  have hA : DataW.TrodAll enc Tryz.prog W 0 (fun _ => true) true Tryz.f3.params.toList args.toList ds p := hA0
  rw [Tryz.params3] at hA hval
  obtain ⟨v0, d0, rfl, rfl, h0⟩ := trodAll_one hA
  have hL' : laidMet Tryz.prog Rows.fnMeetsRow.laid W := hL
  obtain ⟨a0, hv0, hE⟩ := err_of_laid hL'
  have hV1 : DataW.TrodVars enc Tryz.prog W (fun _ => true) ["loop.example/g03101/impl.errNoBasis"] gs q := hV
  obtain ⟨rfl, rfl⟩ := hV1.unique (vars_read1 enc gErr gErrType Tryz.underlying53 hv0 trivial _)
  obtain ⟨Abs, nbs, cbs, bs, rfl, hrbs, hnbs⟩ := open_bytes_reads Tryz.underlying22 Tryz.underlying5 cellsByte (hval 0 22 v0 rfl rfl) h0 (fun x hx => by simpa using hW'.lt x (by simp [hx]))
  refine (walk Abs nbs cbs bs a0 W hrbs hnbs hE).mono fun e W' ⟨he, hb⟩ => ?_
  subst he
  exact ⟨_, rfl, law_endE laidOut (by rw [Tryz.params3]; exact params_ok) Tryz.underlying4 rfl rfl hW' gErr gErrType Tryz.underlying53 hv0 trivial rfl hb⟩

set_option maxRecDepth 100000 in
theorem laid_met (os : Os) : laidMet Tryz.prog Rows.fnMeetsRow.laid ((laidWorldE os).forCall (fun _ _ => 0) ⟨#[], #[.slice none 0 0], []⟩).memory :=
  laidMet_of_run' 8 (by kernel_rfl) (by kernel_rfl)
set_option maxRecDepth 100000 in
theorem reads (os : Os) {H : Type} (enc : TypeId × Value → H) : ∃ gs places, DataW.whole enc Tryz.prog ((laidWorldE os).forCall (fun _ _ => 0) ⟨#[], #[.slice none 0 0], []⟩).memory Tryz.f3.params.toList Rows.fnMeetsSpec.vars false #[Value.slice none 0 0].toList 8 = some ([.nil], gs, places) :=
  ⟨[tok enc (.iface 155 (.pointer (some ⟨low, 0, none⟩)))], [.cell 0 0], by kernel_rfl⟩

set_option maxRecDepth 100000 in
theorem lifted (os : Os) (started : os.Started) (H : Type) (enc : TypeId × Value → H) (F : Stop.Interp) :
    ReturnsInHanded {} Tryz.checked os 3 .any ((OpenSpec.ofChange Rows.fnMeetsSpec).preRow enc Tryz.prog Tryz.f3 Rows.fnMeetsRow.domain false Rows.fnMeetsRow.laid) (((OpenSpec.ofChange Rows.fnMeetsSpec).at F).post enc Tryz.prog Tryz.f3 false true false false) := by
  obtain ⟨gs, places, hx⟩ := reads os enc
  refine returnsInHanded_of_row (C := Tryz.checked) (s := OpenSpec.ofChange Rows.fnMeetsSpec) own started (by kernel_rfl) Tryz.func3
    (witness_row_at (enc := enc) (C := Tryz.checked) false (laidWorldE os) #[.slice none 0 0] rfl (by kernel_rfl) (by kernel_rfl) (by kernel_rfl)
      (OpenSpec.preRow_of_cond 8 hx (by kernel_rfl) (fun k hk => by cases hk) (by kernel_rfl) (laid_met os))) ?_
  intro W base args ds gs before hval hW _ _ _ hL _ _
  exact contract H enc W base args ds gs before hval hW hL

theorem said : Rows.FnMeetsSaid :=
  OpenClaim.holds_of_cond 3 Tryz.f3 rfl rfl rfl rfl rfl rfl rfl ⟨rfl, rfl, rfl, rfl, rfl⟩ rfl rfl rfl rfl rfl (by kernel_rfl) Tryz.func3 (by kernel_rfl)
    (of_decide_eq_true (by kernel_rfl)) (by unfold Func.isWrapper; first | (rw [if_pos (by decide +kernel)]; kernel_rfl) | (rw [if_neg (by decide +kernel)]; exact ⟨rfl, rfl⟩))
    (fun os started H enc _ F => by rw [OpenClaim.pre_eq_preRow]; exact lifted os started H enc F)

theorem plain (f : FuncId) (fn : Func) (hf : Tryz.pinned.checked.prog.funcNamed "loop.example/g03101/laws.FnMeets" = some f) (hfn : Tryz.pinned.checked.prog.funcs[f]? = some fn) :
    true = Tryz.pinned.checked.prog.looks [] ∧ ∀ (j : Nat) t, fn.params[j]? = some t → Tryz.pinned.checked.prog.wantsStandIn t = false := by
  obtain rfl : f = 3 := Option.some.inj ((show Tryz.prog.funcNamed "loop.example/g03101/laws.FnMeets" = some 3 by kernel_rfl).symm.trans hf) |>.symm
  obtain rfl : fn = Tryz.f3 := (Option.some.inj (Tryz.func3.symm.trans hfn)).symm
  refine ⟨by kernel_rfl, fun j t ht => ?_⟩
  rw [Tryz.params3] at ht
  obtain rfl : t = 22 := by simpa using Array.mem_of_getElem? ht
  exact (show Tryz.prog.wantsStandIn 22 = false by kernel_rfl)

theorem card : Rows.FnMeetsCardSaid :=
  Claim7.holds_tied_plain_at .later [] _ _ _ _ said (fun _ h => by cases h) (by kernel_rfl) (fun _ h => by cases h) fnMeets_row_tie rfl ⟨rfl, rfl⟩ (by kernel_rfl) rfl plain (by kernel_rfl)
end Go.Proofs.YtoiipedomgefaaaGreatDoor.fnMeets
