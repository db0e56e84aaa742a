
/-
  THE LAW FnIntervals: intervals have closures, and simple permutations have none of their own. (Written by wip/tools/mkfnintv.py.)
-/
import Derived.Test.YtoiflglccbemeaaDraw5b
import Derived.Test.YtoiflglccbemeaaSames
import Derived.Test.YtoiflglccbemeaaBig
import Derived.Test.YtoiflglccbemeaaEnd
namespace Go.Proofs.Ytoiflglccbemeaa.fnIntervals
set_option maxRecDepth 100000
open Go.RowKit Go.ChangeShapes Go.WideShapes Go.ChangeAt

theorem cloR_lite (p : List Int) (f t : Int) : Lite 9 (cloR p f t) := by
  have h := cloR_le p f t
  refine ⟨by omega, ?_⟩
  cases hf : cloOK p f t with
  | false => rw [cloR_no hf]; exact small_nil
  | true =>
    obtain ⟨F, L, e, hi, h1, h2, h3, h4, h5, h6⟩ := clo_around hf
    rw [e]
    have hF := (cloOK_all hf).2.1
    have h8 := isP_le (cloOK_all hf).1
    intro z hz
    simp only [List.mem_cons, List.not_mem_nil, or_false] at hz
    omega
theorem keep_two {B : Nat} {wr w : World} {p q : Addr} {v u : Value} (h : wr.cell? p = some v) (h' : wr.cell? q = some u) (hp : p.block < B) (hq : q.block < B) (hb : Below B wr w) : w.cell? p = some v ∧ w.cell? q = some u ∧ Below B wr w := ⟨(hb.cell hp).trans h, (hb.cell hq).trans h', hb⟩
theorem keep_three {B : Nat} {wr w : World} {p q r : Addr} {v u x : Value} (h : wr.cell? p = some v) (h' : wr.cell? q = some u) (h'' : wr.cell? r = some x) (hp : p.block < B) (hq : q.block < B) (hr : r.block < B) (hb : Below B wr w) : w.cell? p = some v ∧ w.cell? q = some u ∧ w.cell? r = some x ∧ Below B wr w := ⟨(hb.cell hp).trans h, (hb.cell hq).trans h', (hb.cell hr).trans h'', hb⟩
theorem rows_in {w : World} {B n c : Nat} {A : Option Addr} {zss : List (List Int)} (h : IntsS w B (.slice A n c) zss) {i : Nat} (hi : i < n) :
    ∃ ad A' c' zs, A = some ad ∧ (ad.add i).block < w.heap.size ∧ zss[i]? = some zs ∧ w.cell? (ad.add i) = some (.slice A' zs.length c') ∧ Ints w B (.slice A' zs.length c') zs := by
  have hn := h.len
  obtain ⟨vs, h1, h2⟩ := h
  subst hn
  obtain ⟨ad, u, hA, hlt, hu, hc⟩ := (Reads.of_own_at h1).at_ hi
  have hz : zss[i]? = some zss[i] := List.getElem?_eq_getElem hi
  have hr := h2.row i u _ hu hz
  obtain ⟨A', c', rfl⟩ := hr.slice
  exact ⟨ad, A', c', _, hA, by rw [block_of_add]; exact hlt, hz, hc, hr⟩

set_option maxRecDepth 100000 in
set_option maxHeartbeats 12800000 in
theorem walk (A : Option Addr) (n c : Nat) (bs : List UInt8) (w : World) (hr : Reads w w.heap.size A n (u8s bs)) (hn : n ≤ maxLen) :
    Calls Try.prog 3 #[.slice A n c] w fun e w' => e = .returned (.bool true) ∧ Below w.heap.size w w' := by
  unfold maxLen at hn
  have HG := hide (big_any A n c hn w)
  by_cases hbig : n ≤ 1048576
  · rw [show decide (1048576 < n) = false from decide_eq_false (by omega)] at HG
    go_enter Try.func3, Try.ntmps3
    go_wp2_with fail
    refine (unhide HG).mono ?_
    rintro e w0 ⟨rfl, rfl⟩
    clear HG
    have hb := Below.refl w.heap.size w
    go_wp2_with fail
    refine (dclo_any A n c w.heap.size bs w (hr.below hb) hbig hb.size).mono ?_
    rintro e w1 ⟨A_p, c_p, p, f, t, rfl, l_p, hf, ht, o_p, d⟩
    replace hb := below_after hb d
    clear d
    replace l_p := hide l_p
    go_wp2_with fail
    refine (iclo_any A_p _ c_p _ p f t w1 ((unhide l_p).arg o_p (by omega))).mono ?_
    rintro e w2 ⟨A_c, c_c, rfl, o_c, d⟩
    replace o_p := o_p.below d
    replace hb := below_after hb d
    clear d
    go_wp2_with fail
    refine (sclo_any A_p _ c_p _ p f t hf ht w2 ((unhide l_p).arg o_p (by omega))).mono ?_
    rintro e w3 ⟨A_k, c_k, rfl, o_k, d⟩
    replace o_p := o_p.below d
    replace o_c := o_c.below d
    replace hb := below_after hb d
    clear d
    go_wp2_with fail
    refine (disiv_any A n c w.heap.size bs w3 (hr.below hb) hbig hb.size).mono ?_
    rintro e w4 ⟨A_a, c_a, a, b1, b2, rfl, l_a, hb1, hb2, o_a, d⟩
    replace o_p := o_p.below d
    replace o_c := o_c.below d
    replace o_k := o_k.below d
    replace hb := below_after hb d
    clear d
    replace l_a := hide l_a
    go_wp2_with fail
    refine (dsimple_any A n c w.heap.size bs w4 (hr.below hb) hbig hb.size).mono ?_
    rintro e w5 ⟨A_q, c_q, q, rfl, l_q, o_q, d⟩
    replace o_p := o_p.below d
    replace o_c := o_c.below d
    replace o_k := o_k.below d
    replace o_a := o_a.below d
    replace hb := below_after hb d
    clear d
    replace l_q := hide l_q
    go_wp2_with fail
    refine (dinfl_any A n c w.heap.size bs w5 (hr.below hb) hbig hb.size).mono ?_
    rintro e w6 ⟨A_r, c_r, r, A_l, c_l, l, rfl, l_r, n_l, l_l, o_r, o_l, d⟩
    replace o_p := o_p.below d
    replace o_c := o_c.below d
    replace o_k := o_k.below d
    replace o_a := o_a.below d
    replace o_q := o_q.below d
    replace hb := below_after hb d
    clear d
    replace l_r := hide l_r
    replace l_l := hide l_l
    have m_l : l.length ≤ 1048576 := by omega
    have q_l := hide (fun z (hz : z ∈ l) => (show z.length ≤ 1048576 ∧ Small z from ⟨by have := (unhide l_l z hz).1; omega, (unhide l_l z hz).2⟩))
    go_wp2_with fail
    refine (iinfl_any A_r A_l _ c_r _ _ c_l _ r l w6 ((unhide l_r).arg o_r (by omega)) o_l m_l (unhide q_l)).mono ?_
    rintro e w7 ⟨A_x, c_x, rfl, o_x, d⟩
    replace o_p := o_p.below d
    replace o_c := o_c.below d
    replace o_k := o_k.below d
    replace o_a := o_a.below d
    replace o_q := o_q.below d
    replace o_r := o_r.below d
    replace o_l := o_l.below d
    replace hb := below_after hb d
    clear d
    go_wp2_with fail
    refine (sinfl_any A_r A_l _ c_r _ _ c_l _ r l w7 ((unhide l_r).arg o_r (by omega)) o_l m_l (unhide q_l)).mono ?_
    rintro e w8 ⟨A_y, c_y, rfl, o_y, d⟩
    replace o_p := o_p.below d
    replace o_c := o_c.below d
    replace o_k := o_k.below d
    replace o_a := o_a.below d
    replace o_q := o_q.below d
    replace o_r := o_r.below d
    replace o_l := o_l.below d
    replace o_x := o_x.below d
    replace hb := below_after hb d
    clear d
    clear o_r
    go_wp2_with fail
    refine (iivs_any A_p _ c_p _ p w8 ((unhide l_p).arg o_p (by omega))).mono ?_
    rintro e w9 ⟨A_v, c_v, rfl, o_v, d⟩
    replace o_p := o_p.below d
    replace o_c := o_c.below d
    replace o_k := o_k.below d
    replace o_a := o_a.below d
    replace o_q := o_q.below d
    replace o_l := o_l.below d
    replace o_x := o_x.below d
    replace o_y := o_y.below d
    replace hb := below_after hb d
    clear d
    obtain ⟨ok, hok⟩ : ∃ ok, cloOK p f t = ok := ⟨_, rfl⟩
    obtain ⟨one, hone⟩ : ∃ one, inflOK r l = one := ⟨_, rfl⟩
    rw [hok, hone]
    have HOK := hide hok
    have HONE := hide hone
    clear hok hone
    go_wp2_with fail
    refine (samei_any _ _ _ _ _ _ _ _ _ _ o_c.reads o_k.reads (by have := cloR_le p f t; omega)).mono ?_
    rintro e w10 ⟨rfl, d0⟩
    have d := d0.below w9.heap.size
    clear d0
    replace o_p := o_p.below d
    replace o_c := o_c.below d
    replace o_k := o_k.below d
    replace o_a := o_a.below d
    replace o_q := o_q.below d
    replace o_l := o_l.below d
    replace o_x := o_x.below d
    replace o_y := o_y.below d
    replace o_v := o_v.below d
    replace hb := below_after hb d
    clear d
    clear o_k
    go_wp2_with fail
    refine (iisiv_any A_a _ c_a _ a b1 b2 w10 ((unhide l_a).arg o_a (by omega))).mono ?_
    rintro e w11 ⟨rfl, d⟩
    replace o_p := o_p.below d
    replace o_c := o_c.below d
    replace o_a := o_a.below d
    replace o_q := o_q.below d
    replace o_l := o_l.below d
    replace o_x := o_x.below d
    replace o_y := o_y.below d
    replace o_v := o_v.below d
    replace hb := below_after hb d
    clear d
    go_wp2_with fail
    refine (sisiv_any A_a _ c_a _ a b1 b2 hb1 hb2 w11 ((unhide l_a).arg o_a (by omega))).mono ?_
    rintro e w12 ⟨rfl, d⟩
    replace o_p := o_p.below d
    replace o_c := o_c.below d
    replace o_a := o_a.below d
    replace o_q := o_q.below d
    replace o_l := o_l.below d
    replace o_x := o_x.below d
    replace o_y := o_y.below d
    replace o_v := o_v.below d
    replace hb := below_after hb d
    clear d
    clear o_a
    go_wp2_with fail
    refine (isimple_any A_q _ c_q _ q w12 ((unhide l_q).arg o_q (by omega))).mono ?_
    rintro e w13 ⟨rfl, d⟩
    replace o_p := o_p.below d
    replace o_c := o_c.below d
    replace o_q := o_q.below d
    replace o_l := o_l.below d
    replace o_x := o_x.below d
    replace o_y := o_y.below d
    replace o_v := o_v.below d
    replace hb := below_after hb d
    clear d
    go_wp2_with fail
    refine (ssimple_any A_q _ c_q _ q w13 ((unhide l_q).arg o_q (by omega))).mono ?_
    rintro e w14 ⟨rfl, d⟩
    replace o_p := o_p.below d
    replace o_c := o_c.below d
    replace o_q := o_q.below d
    replace o_l := o_l.below d
    replace o_x := o_x.below d
    replace o_y := o_y.below d
    replace o_v := o_v.below d
    replace hb := below_after hb d
    clear d
    go_wp2_with fail
    refine (samei_any _ _ _ _ _ _ _ _ _ _ o_x.reads o_y.reads (by have := inflR_le r l; omega)).mono ?_
    rintro e w15 ⟨rfl, d0⟩
    have d := d0.below w14.heap.size
    clear d0
    replace o_p := o_p.below d
    replace o_c := o_c.below d
    replace o_q := o_q.below d
    replace o_l := o_l.below d
    replace o_x := o_x.below d
    replace o_y := o_y.below d
    replace o_v := o_v.below d
    replace hb := below_after hb d
    clear d
    clear o_y
    go_wp2_with fail
    refine (sivs_any A_p _ c_p _ p w15 ((unhide l_p).arg o_p (by omega))).mono ?_
    rintro e w16 ⟨A_s, c_s, rfl, o_s, d⟩
    replace o_p := o_p.below d
    replace o_c := o_c.below d
    replace o_q := o_q.below d
    replace o_l := o_l.below d
    replace o_x := o_x.below d
    replace o_v := o_v.below d
    replace hb := below_after hb d
    clear d
    go_wp2_with fail
    refine (samess_any _ _ _ _ _ _ _ _ _ _ o_v o_s (by have := (ivsR_small p).1; omega) (by have := (ivsR_small p).2; omega)).mono ?_
    rintro e w17 ⟨rfl, d0⟩
    have d := d0.below w16.heap.size
    clear d0
    replace o_p := o_p.below d
    replace o_c := o_c.below d
    replace o_q := o_q.below d
    replace o_l := o_l.below d
    replace o_x := o_x.below d
    replace o_v := o_v.below d
    replace o_s := o_s.below d
    replace hb := below_after hb d
    clear d
    clear o_s
    go_wp2_with fail
    refine (icnt_any A_p _ c_p _ p w17 ((unhide l_p).arg o_p (by omega))).mono ?_
    rintro e w18 ⟨rfl, d⟩
    replace o_p := o_p.below d
    replace o_c := o_c.below d
    replace o_q := o_q.below d
    replace o_l := o_l.below d
    replace o_x := o_x.below d
    replace o_v := o_v.below d
    replace hb := below_after hb d
    clear d
    go_wp2_with fail
    refine (scnt_any A_p _ c_p _ p w18 ((unhide l_p).arg o_p (by omega))).mono ?_
    rintro e w19 ⟨rfl, d⟩
    replace o_p := o_p.below d
    replace o_c := o_c.below d
    replace o_q := o_q.below d
    replace o_l := o_l.below d
    replace o_x := o_x.below d
    replace o_v := o_v.below d
    replace hb := below_after hb d
    clear d
    cases ok with
    | false =>
      clear o_c
      go_wp2
      go_quiet (fail)
      have d := ((Drew.refl w19).more nq).below w19.heap.size
      replace o_p := o_p.below d
      replace o_q := o_q.below d
      replace o_l := o_l.below d
      replace o_x := o_x.below d
      replace o_v := o_v.below d
      generalize World.drewN w19 nq = wt at *
      replace hb := below_after hb d
      clear d
      have HMV := hide (fun z (hz : z ∈ ivsR p) => mem_ivsR hz)
      obtain ⟨lv, hlv⟩ : ∃ lv, lv = ivsR p := ⟨_, rfl⟩
      rw [← hlv] at o_v HMV ⊢
      have hv64 : lv.length ≤ 64 := by rw [hlv]; exact (ivsR_small p).1
      clear hlv
      obtain ⟨nv, hnv⟩ : ∃ nv, nv = lv.length := ⟨_, rfl⟩
      rw [← hnv] at o_v hv64 ⊢
      clear hnv
      have hk0 := Below.refl wt.heap.size wt
      have hbw := hb
      go_wp2
      go_loopw [21] (fun i wr => ∃ k : Nat, k ≤ nv ∧ i = .int .i64 k ∧ Below wt.heap.size wt wr) (fun i _ => nv - (intOf i).toNat)
      case atStart => exact ⟨0, Nat.zero_le _, rfl, hk0⟩
      case round =>
        obtain ⟨k, hk, rfl, hbk⟩ := hrel
        clear hk0 hbw
        by_cases hlt : k < nv
        · obtain ⟨ad, A1, c1, z, rfl, hadl, hz, hcell, hIz⟩ := rows_in (o_v.below hbk) hlt
          obtain ⟨_, F, T, rfl, hIv, _, _, _, _⟩ := unhide HMV z (List.mem_of_getElem? hz)
          obtain ⟨g, rfl, _, _, hgl, p0, p1⟩ := hIz.pair
          simp only [List.length_cons, List.length_nil] at hcell
          have HI := hide (fun w' (hb' : Below wr.heap.size wr w') => (show Calls Try.prog 21 #[.slice A_p p.length c_p, .int .i64 F, .int .i64 T] w' (GivesB w' true) from by
            have h := iisiv_any A_p _ c_p _ p F T w' (((unhide l_p).arg (o_p.below hbk) (by omega)).below hb')
            rwa [hIv] at h))
          have hb0 := Below.refl wr.heap.size wr
          clear hIv hIz hz
          go_wp2
          go_region_held3 (fun w' => w'.cell? (ad.add k) = some (.slice (some ⟨g, 0, none⟩) 2 c1) ∧ w'.cell? ⟨g, 0, none⟩ = some (.int .i64 F) ∧ w'.cell? ⟨g, 1, none⟩ = some (.int .i64 T) ∧ Below wr.heap.size wr w') ((refine keep_three hcell p0 p1 hadl hgl hgl ?_; first | assumption | (apply Below.drew; assumption)))
            ((go_at_call 21; refine (unhide HI _ (by first | assumption | (apply Below.drew; assumption))).mono ?_; rintro e w' ⟨rfl, hb'⟩; have hb5 : Below wr.heap.size wr w' := (hb0.drew).trans hb'; clear hb'))
          have hbk2 := below_after hbk hb5
          clear hb5 hb0 hbk HI
          go_wp2
          go_roundw
          case rel => exact ⟨k + 1, by omega, by go_num, hbk2⟩
          case measure => simp [intOf]; omega
        · obtain rfl : nv = k := by omega
          clear o_v
          clear o_p
          replace o_q := o_q.below hbk
          replace o_l := o_l.below hbk
          replace o_x := o_x.below hbk
          replace hb := below_after hb hbk
          clear hbk
          obtain ⟨wu, rfl⟩ : ∃ wu, wu = wr := ⟨_, rfl⟩
          cases one with
          | false =>
            clear o_l
            clear o_x
            obtain ⟨sq, hsq⟩ : ∃ sq, simpleP q = sq := ⟨_, rfl⟩
            have HS1 := hide (isimple_any A_q _ c_q _ q wu ((unhide l_q).arg o_q (by omega)))
            rw [hsq] at HS1
            cases sq with
            | false =>
              go_wp2_with fail
              refine (unhide HS1).mono ?_
              rintro e wy ⟨rfl, d⟩
              have hb9 := below_after hb d
              clear hb d HS1
              go_wp2
              go_ret
              exact ⟨rfl, hb9⟩
            | true =>
              have hcount := simple_count hsq
              obtain ⟨cv, hcv⟩ : ∃ cv, cntR q = cv := ⟨_, rfl⟩
              rw [hcv] at hcount
              go_wp2_with fail
              refine (unhide HS1).mono ?_
              rintro e wy ⟨rfl, d⟩
              replace o_q := o_q.below d
              replace hb := below_after hb d
              clear d HS1 hsq
              have HC1 := hide (icnt_any A_q _ c_q _ q wy ((unhide l_q).arg o_q (by omega)))
              rw [hcv] at HC1
              clear o_q hcv
              have hq9 := (unhide l_q).1
              obtain ⟨m, hm⟩ : ∃ m, m = q.length := ⟨_, rfl⟩
              rw [← hm] at hq9 hcount HC1 ⊢
              clear hm
              go_wp2_with fail
              refine (unhide HC1).mono ?_
              rintro e wz ⟨rfl, d⟩
              have hb9 := below_after hb d
              clear hb d HC1
              by_cases he : cv = (m : Int) + 1
              · subst he
                go_wp2
                go_ret
                exact ⟨rfl, hb9⟩
              · have he2 : (cv == (m : Int) + 1) = false := by rw [beq_eq_false_iff_ne]; exact he
                obtain rfl : m = 1 := by omega
                clear hcount he
                go_wp2
                all_goals go_ret
                all_goals exact ⟨rfl, hb9⟩
          | true =>
            have hone := unhide HONE
            have HPT := hide (fun (k : Nat) z (hz : l[k]? = some z) => infl_part hone hz)
            have h8 := (inflOK_all hone).2.2.2.2
            obtain ⟨nl, hnl⟩ : ∃ nl, nl = l.length := ⟨_, rfl⟩
            rw [← hnl] at o_l n_l m_l ⊢
            have HNL := hide hnl
            clear hnl hone
            have hk0 := Below.refl wu.heap.size wu
            have hbw := hb
            go_wp2
            go_loopw [22, 23] (fun at_ i wr => ∃ k : Nat, k ≤ nl ∧ i = .int .i64 k ∧ at_ = .int .i64 ((tot (l.take k) : Int) + 1) ∧ Below wu.heap.size wu wr) (fun _ i _ => nl - (intOf i).toNat)
            case atStart => exact ⟨0, Nat.zero_le _, rfl, by simp [tot], hk0⟩
            case round =>
              obtain ⟨k, hk, rfl, rfl, hbk⟩ := hrel
              clear hk0
              have htt := tot_take l k
              by_cases hlt : k < nl
              · obtain ⟨ad, A1, c1, z, rfl, hadl, hz, hcell, _⟩ := rows_in (o_l.below hbk) hlt
                have hts := tot_step hz
                have htt2 := tot_take l (k + 1)
                have hpt := unhide HPT k z hz
                have HX := hide (fun F T (hF : F = (tot (l.take k) : Int) + 1) (hT : T = (tot (l.take k) : Int) + (z.length : Int)) => (show Calls Try.prog 21 #[.slice A_x (inflR r l).length c_x, .int .i64 F, .int .i64 T] wr (GivesB wr true) from by
                  have h := iisiv_any A_x _ c_x _ (inflR r l) F T wr (((inflR_lite r l).arg o_x (by omega)).below hbk)
                  have e : isIv (inflR r l) F T = true := by rw [hF, hT]; exact hpt
                  rwa [e] at h))
                obtain ⟨T, hT⟩ : ∃ T, T = tot (l.take k) := ⟨_, rfl⟩
                obtain ⟨m, hm⟩ : ∃ m, m = z.length := ⟨_, rfl⟩
                rw [← hT, ← hm] at hts HX
                rw [← hT]
                rw [← hT] at htt
                rw [← hm] at hcell
                have HTS := hide hts
                have hT8 : T + m ≤ 8 := by omega
                clear hz hpt hts htt2 hT hm
                go_wp2_with fail
                refine (unhide HX _ _ (by omega) (by omega)).mono ?_
                rintro e w9 ⟨rfl, d⟩
                have hbk2 := below_after hbk d
                have hcell2 : w9.cell? (ad.add k) = some (.slice A1 m c1) := (d.cell hadl).trans hcell
                clear d HX hbk hcell
                go_wp2
                go_roundw
                case rel => exact ⟨k + 1, by omega, by go_num, by rw [unhide HTS]; go_num, hbk2⟩
                case measure => simp [intOf]; omega
              · obtain rfl : nl = k := by omega
                replace hb := below_after hb hbk
                replace o_q := o_q.below hbk
                clear hbk hbw
                clear o_l
                clear o_x
                obtain ⟨sq, hsq⟩ : ∃ sq, simpleP q = sq := ⟨_, rfl⟩
                have HS1 := hide (isimple_any A_q _ c_q _ q wr ((unhide l_q).arg o_q (by omega)))
                rw [hsq] at HS1
                cases sq with
                | false =>
                  go_wp2_with fail
                  refine (unhide HS1).mono ?_
                  rintro e wy ⟨rfl, d⟩
                  have hb9 := below_after hb d
                  clear hb d HS1
                  go_wp2
                  go_ret
                  exact ⟨rfl, hb9⟩
                | true =>
                  have hcount := simple_count hsq
                  obtain ⟨cv, hcv⟩ : ∃ cv, cntR q = cv := ⟨_, rfl⟩
                  rw [hcv] at hcount
                  go_wp2_with fail
                  refine (unhide HS1).mono ?_
                  rintro e wy ⟨rfl, d⟩
                  replace o_q := o_q.below d
                  replace hb := below_after hb d
                  clear d HS1 hsq
                  have HC1 := hide (icnt_any A_q _ c_q _ q wy ((unhide l_q).arg o_q (by omega)))
                  rw [hcv] at HC1
                  clear o_q hcv
                  have hq9 := (unhide l_q).1
                  obtain ⟨m, hm⟩ : ∃ m, m = q.length := ⟨_, rfl⟩
                  rw [← hm] at hq9 hcount HC1 ⊢
                  clear hm
                  go_wp2_with fail
                  refine (unhide HC1).mono ?_
                  rintro e wz ⟨rfl, d⟩
                  have hb9 := below_after hb d
                  clear hb d HC1
                  by_cases he : cv = (m : Int) + 1
                  · subst he
                    go_wp2
                    go_ret
                    exact ⟨rfl, hb9⟩
                  · have he2 : (cv == (m : Int) + 1) = false := by rw [beq_eq_false_iff_ne]; exact he
                    obtain rfl : m = 1 := by omega
                    clear hcount he
                    go_wp2
                    all_goals go_ret
                    all_goals exact ⟨rfl, hb9⟩
    | true =>
      obtain ⟨F, G, ecl, hIv, hF1, hF2, hG1, hG2, hF3, hG3⟩ := clo_around (unhide HOK)
      rw [ecl] at o_c ⊢
      simp only [List.length_cons, List.length_nil] at o_c ⊢
      obtain ⟨g, rfl, _, _, hgl, p0, p1⟩ := o_c.pair
      have HI := hide (fun w' (hb' : Below w19.heap.size w19 w') => (show Calls Try.prog 21 #[.slice A_p p.length c_p, .int .i64 F, .int .i64 G] w' (GivesB w' true) from by
        have h := iisiv_any A_p _ c_p _ p F G w' (((unhide l_p).arg o_p (by omega)).below hb')
        rwa [hIv] at h))
      have hb0 := Below.refl w19.heap.size w19
      clear hIv ecl
      have e1 : decide (f < F) = false := decide_eq_false (by omega)
      have e2 : decide (G < t) = false := decide_eq_false (by omega)
      have e3 : decide (t < F) = false := decide_eq_false (by omega)
      have e4 : decide (G < f) = false := decide_eq_false (by omega)
      go_wp2
      go_region_held3 (fun w' => w'.cell? ⟨g, 0, none⟩ = some (.int .i64 F) ∧ w'.cell? ⟨g, 1, none⟩ = some (.int .i64 G) ∧ Below w19.heap.size w19 w') ((refine keep_two p0 p1 hgl hgl ?_; first | assumption | (apply Below.drew; assumption)))
        ((go_at_call 21; refine (unhide HI _ (by first | assumption | (apply Below.drew; assumption))).mono ?_; rintro e w' ⟨rfl, hb'⟩; have hb5 : Below w19.heap.size w19 w' := (hb0.drew).trans hb'; clear hb'))
      obtain ⟨wt, rfl⟩ : ∃ wt, wt = w' := ⟨_, rfl⟩
      clear o_c
      have d := hb5
      clear hb5 HI hb0 e1 e2 e3 e4
      replace o_p := o_p.below d
      replace o_q := o_q.below d
      replace o_l := o_l.below d
      replace o_x := o_x.below d
      replace o_v := o_v.below d
      replace hb := below_after hb d
      clear d
      have HMV := hide (fun z (hz : z ∈ ivsR p) => mem_ivsR hz)
      obtain ⟨lv, hlv⟩ : ∃ lv, lv = ivsR p := ⟨_, rfl⟩
      rw [← hlv] at o_v HMV ⊢
      have hv64 : lv.length ≤ 64 := by rw [hlv]; exact (ivsR_small p).1
      clear hlv
      obtain ⟨nv, hnv⟩ : ∃ nv, nv = lv.length := ⟨_, rfl⟩
      rw [← hnv] at o_v hv64 ⊢
      clear hnv
      have hk0 := Below.refl wt.heap.size wt
      have hbw := hb
      go_wp2
      go_loopw [21] (fun i wr => ∃ k : Nat, k ≤ nv ∧ i = .int .i64 k ∧ Below wt.heap.size wt wr) (fun i _ => nv - (intOf i).toNat)
      case atStart => exact ⟨0, Nat.zero_le _, rfl, hk0⟩
      case round =>
        obtain ⟨k, hk, rfl, hbk⟩ := hrel
        clear hk0 hbw
        by_cases hlt : k < nv
        · obtain ⟨ad, A1, c1, z, rfl, hadl, hz, hcell, hIz⟩ := rows_in (o_v.below hbk) hlt
          obtain ⟨_, F, T, rfl, hIv, _, _, _, _⟩ := unhide HMV z (List.mem_of_getElem? hz)
          obtain ⟨g, rfl, _, _, hgl, p0, p1⟩ := hIz.pair
          simp only [List.length_cons, List.length_nil] at hcell
          have HI := hide (fun w' (hb' : Below wr.heap.size wr w') => (show Calls Try.prog 21 #[.slice A_p p.length c_p, .int .i64 F, .int .i64 T] w' (GivesB w' true) from by
            have h := iisiv_any A_p _ c_p _ p F T w' (((unhide l_p).arg (o_p.below hbk) (by omega)).below hb')
            rwa [hIv] at h))
          have hb0 := Below.refl wr.heap.size wr
          clear hIv hIz hz
          go_wp2
          go_region_held3 (fun w' => w'.cell? (ad.add k) = some (.slice (some ⟨g, 0, none⟩) 2 c1) ∧ w'.cell? ⟨g, 0, none⟩ = some (.int .i64 F) ∧ w'.cell? ⟨g, 1, none⟩ = some (.int .i64 T) ∧ Below wr.heap.size wr w') ((refine keep_three hcell p0 p1 hadl hgl hgl ?_; first | assumption | (apply Below.drew; assumption)))
            ((go_at_call 21; refine (unhide HI _ (by first | assumption | (apply Below.drew; assumption))).mono ?_; rintro e w' ⟨rfl, hb'⟩; have hb5 : Below wr.heap.size wr w' := (hb0.drew).trans hb'; clear hb'))
          have hbk2 := below_after hbk hb5
          clear hb5 hb0 hbk HI
          go_wp2
          go_roundw
          case rel => exact ⟨k + 1, by omega, by go_num, hbk2⟩
          case measure => simp [intOf]; omega
        · obtain rfl : nv = k := by omega
          clear o_v
          clear o_p
          replace o_q := o_q.below hbk
          replace o_l := o_l.below hbk
          replace o_x := o_x.below hbk
          replace hb := below_after hb hbk
          clear hbk
          obtain ⟨wu, rfl⟩ : ∃ wu, wu = wr := ⟨_, rfl⟩
          cases one with
          | false =>
            clear o_l
            clear o_x
            obtain ⟨sq, hsq⟩ : ∃ sq, simpleP q = sq := ⟨_, rfl⟩
            have HS1 := hide (isimple_any A_q _ c_q _ q wu ((unhide l_q).arg o_q (by omega)))
            rw [hsq] at HS1
            cases sq with
            | false =>
              go_wp2_with fail
              refine (unhide HS1).mono ?_
              rintro e wy ⟨rfl, d⟩
              have hb9 := below_after hb d
              clear hb d HS1
              go_wp2
              go_ret
              exact ⟨rfl, hb9⟩
            | true =>
              have hcount := simple_count hsq
              obtain ⟨cv, hcv⟩ : ∃ cv, cntR q = cv := ⟨_, rfl⟩
              rw [hcv] at hcount
              go_wp2_with fail
              refine (unhide HS1).mono ?_
              rintro e wy ⟨rfl, d⟩
              replace o_q := o_q.below d
              replace hb := below_after hb d
              clear d HS1 hsq
              have HC1 := hide (icnt_any A_q _ c_q _ q wy ((unhide l_q).arg o_q (by omega)))
              rw [hcv] at HC1
              clear o_q hcv
              have hq9 := (unhide l_q).1
              obtain ⟨m, hm⟩ : ∃ m, m = q.length := ⟨_, rfl⟩
              rw [← hm] at hq9 hcount HC1 ⊢
              clear hm
              go_wp2_with fail
              refine (unhide HC1).mono ?_
              rintro e wz ⟨rfl, d⟩
              have hb9 := below_after hb d
              clear hb d HC1
              by_cases he : cv = (m : Int) + 1
              · subst he
                go_wp2
                go_ret
                exact ⟨rfl, hb9⟩
              · have he2 : (cv == (m : Int) + 1) = false := by rw [beq_eq_false_iff_ne]; exact he
                obtain rfl : m = 1 := by omega
                clear hcount he
                go_wp2
                all_goals go_ret
                all_goals exact ⟨rfl, hb9⟩
          | true =>
            have hone := unhide HONE
            have HPT := hide (fun (k : Nat) z (hz : l[k]? = some z) => infl_part hone hz)
            have h8 := (inflOK_all hone).2.2.2.2
            obtain ⟨nl, hnl⟩ : ∃ nl, nl = l.length := ⟨_, rfl⟩
            rw [← hnl] at o_l n_l m_l ⊢
            have HNL := hide hnl
            clear hnl hone
            have hk0 := Below.refl wu.heap.size wu
            have hbw := hb
            go_wp2
            go_loopw [22, 23] (fun at_ i wr => ∃ k : Nat, k ≤ nl ∧ i = .int .i64 k ∧ at_ = .int .i64 ((tot (l.take k) : Int) + 1) ∧ Below wu.heap.size wu wr) (fun _ i _ => nl - (intOf i).toNat)
            case atStart => exact ⟨0, Nat.zero_le _, rfl, by simp [tot], hk0⟩
            case round =>
              obtain ⟨k, hk, rfl, rfl, hbk⟩ := hrel
              clear hk0
              have htt := tot_take l k
              by_cases hlt : k < nl
              · obtain ⟨ad, A1, c1, z, rfl, hadl, hz, hcell, _⟩ := rows_in (o_l.below hbk) hlt
                have hts := tot_step hz
                have htt2 := tot_take l (k + 1)
                have hpt := unhide HPT k z hz
                have HX := hide (fun F T (hF : F = (tot (l.take k) : Int) + 1) (hT : T = (tot (l.take k) : Int) + (z.length : Int)) => (show Calls Try.prog 21 #[.slice A_x (inflR r l).length c_x, .int .i64 F, .int .i64 T] wr (GivesB wr true) from by
                  have h := iisiv_any A_x _ c_x _ (inflR r l) F T wr (((inflR_lite r l).arg o_x (by omega)).below hbk)
                  have e : isIv (inflR r l) F T = true := by rw [hF, hT]; exact hpt
                  rwa [e] at h))
                obtain ⟨T, hT⟩ : ∃ T, T = tot (l.take k) := ⟨_, rfl⟩
                obtain ⟨m, hm⟩ : ∃ m, m = z.length := ⟨_, rfl⟩
                rw [← hT, ← hm] at hts HX
                rw [← hT]
                rw [← hT] at htt
                rw [← hm] at hcell
                have HTS := hide hts
                have hT8 : T + m ≤ 8 := by omega
                clear hz hpt hts htt2 hT hm
                go_wp2_with fail
                refine (unhide HX _ _ (by omega) (by omega)).mono ?_
                rintro e w9 ⟨rfl, d⟩
                have hbk2 := below_after hbk d
                have hcell2 : w9.cell? (ad.add k) = some (.slice A1 m c1) := (d.cell hadl).trans hcell
                clear d HX hbk hcell
                go_wp2
                go_roundw
                case rel => exact ⟨k + 1, by omega, by go_num, by rw [unhide HTS]; go_num, hbk2⟩
                case measure => simp [intOf]; omega
              · obtain rfl : nl = k := by omega
                replace hb := below_after hb hbk
                replace o_q := o_q.below hbk
                clear hbk hbw
                clear o_l
                clear o_x
                obtain ⟨sq, hsq⟩ : ∃ sq, simpleP q = sq := ⟨_, rfl⟩
                have HS1 := hide (isimple_any A_q _ c_q _ q wr ((unhide l_q).arg o_q (by omega)))
                rw [hsq] at HS1
                cases sq with
                | false =>
                  go_wp2_with fail
                  refine (unhide HS1).mono ?_
                  rintro e wy ⟨rfl, d⟩
                  have hb9 := below_after hb d
                  clear hb d HS1
                  go_wp2
                  go_ret
                  exact ⟨rfl, hb9⟩
                | true =>
                  have hcount := simple_count hsq
                  obtain ⟨cv, hcv⟩ : ∃ cv, cntR q = cv := ⟨_, rfl⟩
                  rw [hcv] at hcount
                  go_wp2_with fail
                  refine (unhide HS1).mono ?_
                  rintro e wy ⟨rfl, d⟩
                  replace o_q := o_q.below d
                  replace hb := below_after hb d
                  clear d HS1 hsq
                  have HC1 := hide (icnt_any A_q _ c_q _ q wy ((unhide l_q).arg o_q (by omega)))
                  rw [hcv] at HC1
                  clear o_q hcv
                  have hq9 := (unhide l_q).1
                  obtain ⟨m, hm⟩ : ∃ m, m = q.length := ⟨_, rfl⟩
                  rw [← hm] at hq9 hcount HC1 ⊢
                  clear hm
                  go_wp2_with fail
                  refine (unhide HC1).mono ?_
                  rintro e wz ⟨rfl, d⟩
                  have hb9 := below_after hb d
                  clear hb d HC1
                  by_cases he : cv = (m : Int) + 1
                  · subst he
                    go_wp2
                    go_ret
                    exact ⟨rfl, hb9⟩
                  · have he2 : (cv == (m : Int) + 1) = false := by rw [beq_eq_false_iff_ne]; exact he
                    obtain rfl : m = 1 := by omega
                    clear hcount he
                    go_wp2
                    all_goals go_ret
                    all_goals exact ⟨rfl, hb9⟩
  · rw [show decide (1048576 < n) = true from decide_eq_true (by omega)] at HG
    clear hr hn
    go_enter Try.func3, Try.ntmps3
    go_wp2_with fail
    refine (unhide HG).mono ?_
    rintro e w0 ⟨rfl, rfl⟩
    go_wp2
    go_ret
    exact ⟨rfl, Below.refl _ _⟩
theorem params_ok : ∀ t ∈ (#[22] : Array TypeId).toList, Try.prog.readableRec t = true ∧ t < Try.prog.types.size := by
  intro t ht
  simp only [List.mem_cons, List.not_mem_nil, or_false] at ht
  subst ht
  exact ⟨by kernel_rfl, of_decide_eq_true (by kernel_rfl)⟩

set_option maxRecDepth 100000 in
/-- WHAT THE WALK GIVES, FOR EVERY ARGUMENT. -/
theorem contract (H : Type) (enc : TypeId × Value → H) (W : World) (base : Nat) (args : Array Value) (ds gs : List (DataW H)) (before : List MemPlace)
    (hval : ∀ (j : Nat) t v, Try.f3.params[j]? = some t → args[j]? = some v → Value.okWide Try.prog W .any base t v)
    (hW : DataW.Whole enc Try.prog Try.f3.params.toList Rows.fnIntervalsSpec.vars false W args.toList ds gs before) :
    Calls Try.prog 3 args W fun e W' => ∃ v, e = .returned v ∧ Rows.fnIntervalsSpec.post enc Try.prog Try.f3 false true false false W args v W' := by
  have hW' := hW
  obtain ⟨p, q, hA0, hV, rfl, hfz, hnd⟩ := hW
  have hA : DataW.TrodAll enc Try.prog W 0 (fun _ => true) true Try.f3.params.toList args.toList ds p := hA0
  rw [Try.params3] at hA hval
  obtain ⟨v0, d0, rfl, rfl, h0⟩ := trodAll_one hA
  obtain ⟨rfl, rfl⟩ := trodVars_none hV
  obtain ⟨Abs, nbs, cbs, bs, rfl, hrbs, hnbs⟩ := open_bytes_reads Try.underlying22 Try.underlying5 cellsByte (hval 0 22 v0 rfl rfl) h0 (fun x hx => by simpa using hW'.lt x (by simp [hx]))
  refine (walk Abs nbs cbs bs W hrbs hnbs).mono fun e W' ⟨he, hb⟩ => ?_
  subst he
  exact ⟨_, rfl, law_end laidOut (by rw [Try.params3]; exact params_ok) Try.underlying4 rfl rfl hW' rfl hb⟩

set_option maxRecDepth 100000 in
theorem lifted (os : Os) (started : os.Started) (H : Type) (enc : TypeId × Value → H) :
    ReturnsInHanded {} Try.checked os 3 .any (Rows.fnIntervalsSpec.pre6 enc Try.prog Try.f3 Rows.fnIntervalsRow.domain false) (Rows.fnIntervalsSpec.post enc Try.prog Try.f3 false true false false) := by
  refine returnsInHanded_of_change (C := Try.checked) own started (by kernel_rfl) Try.func3
    (ChangeSpec.witness6 (enc := enc) (C := Try.checked) false ⟨#[], #[.slice none 0 0], []⟩ 8 (by kernel_rfl) (by kernel_rfl) (by kernel_rfl) (by kernel_rfl)) ?_
  intro W base args ds gs before hval hW _ _
  exact contract H enc W base args ds gs before hval hW

theorem proved : Rows.FnIntervalsSaid :=
  OpenClaim.holds_of_wide 3 Try.f3 rfl rfl rfl rfl rfl rfl rfl ⟨rfl, rfl, rfl, rfl, rfl⟩ rfl rfl rfl rfl rfl (by kernel_rfl) Try.func3 (by kernel_rfl)
    (of_decide_eq_true (by kernel_rfl)) (by unfold Func.isWrapper; first | (rw [if_pos (by decide +kernel)]; kernel_rfl) | (rw [if_neg (by decide +kernel)]; exact ⟨rfl, rfl⟩))
    (fun os started H enc _ => lifted os started H enc)
end Go.Proofs.Ytoiflglccbemeaa.fnIntervals
