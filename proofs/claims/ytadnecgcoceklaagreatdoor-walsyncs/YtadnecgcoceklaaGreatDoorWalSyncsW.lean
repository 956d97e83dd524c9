/-
  The law WalSyncs, walked.
-/
import Derived.Test.YtadnecgcoceklaaGreatDoorWalK2
import Derived.Test.YtadnecgcoceklaaGreatDoorMF
namespace Go.Proofs.YtadnecgcoceklaaGreatDoor
open Go.RowKit Go.Maps
namespace walSyncs

abbrev tmap (l : List Rec) : List ByteArray := l.map strOf
theorem tmap_snoc (l : List Rec) (t : ByteArray) : tmap (l ++ [natsOf t]) = tmap l ++ [t] := by simp [strOf_natsOf]
theorem up_lt {n : Nat} (h : n < 300) : n + 1 < 1073741824 := by omega
theorem lt_big {n : Nat} (h : n < 300) : n < 1073741824 := by omega
theorem strs_at {w : World} {ad : Option Addr} {l : List ByteArray} (h : StrsAt w ad l) {i : Nat} (hi : i < l.length) : ∃ b off, ad = some ⟨b, off, none⟩ ∧ b < w.heap.size ∧ w.cell? ⟨b, off + i, none⟩ = some (.string l[i]) := by
  rcases h with h | ⟨b, off, e, hl, hc⟩
  · rw [h] at hi; cases hi
  · exact ⟨b, off, e, hl, hc i hi⟩
theorem sum_lim {R lim : Nat} (h : R + 1 = lim) (hl : lim ≤ 900) : wrap64 (1 + (R : Int)) = (lim : Int) := by unfold wrap64; omega
set_option maxRecDepth 100000 in
set_option maxHeartbeats 8000000 in
theorem walk (a0 : Option Addr) (len0 cap0 : Nat) (z0 : List ByteArray) (a1 : Option Addr) (len1 cap1 : Nat) (z1 : Nat → Bool) (a2 : Int) (W : World) (w0 : IsStrs W a0 len0 cap0 z0) (w1 : IsBools W a1 len1 cap1 z1) (_ : (Lit.int .i64 a2).wf = true) (hv : Vars W) :
    Calls Tryz.prog 7 #[.slice a0 len0 cap0, .slice a1 len1 cap1, .int .i64 a2] W fun e w' => e = .returned (.bool true) ∧ Below W.heap.size W w' := by
  obtain ⟨R, hR1, hR2, hR3, -⟩ := modU a2 900 (by omega) (by omega)
  obtain ⟨lim, hlim⟩ : ∃ lim, R + 1 = lim := ⟨_, rfl⟩
  have hl1 : 1 ≤ lim := by omega
  have hl2 : lim ≤ 900 := by omega
  have hw1 := sum_lim hlim hl2
  have HW0 := Lib.hid w0
  have HW1 := Lib.hid w1
  have HL := Lib.hid (logged_any W hv)
  have HV := Lib.hid hv
  obtain ⟨A0, hz0, hk0⟩ := PS.start lim hl1 hl2
  have HZ0 := Lib.hid hz0
  have HK0 := Lib.hid hk0
  have HT0 := Lib.hid (hk0.top (by omega)).1
  clear w0 w1 hv hR1 hlim hz0 hk0
  go_enter Tryz.func7, Tryz.ntmps7
  go_wp2_with fail
  refine HL.out.mono ?_
  rintro e W1 ⟨rfl, b1⟩
  have HB1 := Lib.hid b1
  have HN := Lib.hid (kf_made (B := W.heap.size) (w := W1) b1.size ((VB.start HV.out).below b1) 4194304 (by omega))
  clear b1 HL
  go_wp2_with fail
  refine HN.out.mono ?_
  rintro e W2 ⟨rfl, hF, hb⟩
  have HB2 := Lib.hid (HB1.out.trans (hb.mono HB1.out.size))
  have HN2 := Lib.hid (d2_made hF 4194304 (by omega))
  obtain ⟨pb, hpb⟩ : ∃ pb, W1.heap.size = pb := ⟨_, rfl⟩
  rw [hpb] at HN2 ⊢
  clear hF hb HN HB1 hpb
  go_wp2_with fail
  refine HN2.out.mono ?_
  rintro e W3 ⟨rfl, hF, hb⟩
  have HB3 := Lib.hid (HB2.out.trans (hb.mono HB2.out.size))
  have HN3 := Lib.hid (d2_new hF 3 (lim : Int) ⟨by omega, by omega⟩ (by show (0 : Nat) + 1 < _; omega) HZ0.out (n' := 3) (l' := lim) rfl (Int.toNat_natCast lim))
  obtain ⟨pb2, hpb⟩ : ∃ pb, W2.heap.size = pb := ⟨_, rfl⟩
  rw [hpb] at HN3 ⊢
  clear hF hb HN2 HB2 hpb
  go_wp2_with fail
  refine HN3.out.mono ?_
  rintro e W4 ⟨lb, rfl, hF, hb⟩
  have HB4 := Lib.hid (HB3.out.trans hb)
  have HN4 := Lib.hid (l2_new hF 3 (lim : Int) ⟨by omega, by omega⟩ (by show (0 : Nat) + 1 < _; omega) HZ0.out (n' := 3) (l' := lim) rfl (Int.toNat_natCast lim))
  clear hF hb HN3 HB3
  go_wp2_with fail
  refine HN4.out.mono ?_
  rintro e W5 ⟨lb2, rfl, hk, hb⟩
  have HB5 := Lib.hid (HB4.out.trans hb)
  have HK5 := Lib.hid hk.none
  clear hk hb HN4 HB4 HZ0
  go_wp2_with fail
  go_loopw [13, 14] (fun u13 u14 wr => ∃ (i num : Nat) (a b : A) (T : List Rec), u14 = .int .i64 i ∧ i ≤ 40 ∧ i ≤ len0 ∧ K2 (fun _ => False) W.heap.size wr lb pb num lim a lb2 pb2 num lim b [(u13, tmap T)] ∧ PS a b i num T ∧ Below W.heap.size W wr) (fun _ u14 _ => 40 - (intOf u14).toNat)
  case atStart => exact ⟨0, 3, A0, A0, [], rfl, by omega, by omega, HK5.out, HK0.out, HB5.out⟩
  case round =>
    obtain ⟨i, num, a, b, T, rfl, hi40, hil, hK, hPS, hB⟩ := hrel
    have HKr := Lib.hid hK
    have HS := Lib.hid hPS
    have HBr := Lib.hid hB
    obtain ⟨ht1, ht2, hn1, hn2⟩ := hPS.top hi40
    have HTO := Lib.hid (And.intro ht1 ht2)
    have hcnt := hPS.cnt
    have hn3 : num ≤ 999999 := by omega
    clear hK hPS hB ht1 ht2 HK5 HK0 HB5 HT0
    by_cases hin1 : i < len0
    · by_cases hin2 : i < 40
      · have hzl : i < z0.length := by rw [HW0.out.1]; exact hin1
        obtain ⟨b0, off0, rfl, hb0, c0⟩ := strs_at HW0.out.2.1 hzl
        obtain ⟨txt, htxt⟩ : ∃ txt, z0[i] = txt := ⟨_, rfl⟩
        have hsz : txt.size ≤ 9223372036854775807 := by rw [← htxt]; exact HW0.out.2.2.2 _ (List.getElem_mem hzl)
        rw [htxt] at c0
        have cr0 := (HBr.out.cell (p := ⟨b0, off0 + i, none⟩) hb0).trans c0
        have hbr0 : b0 < wr.heap.size := Nat.lt_of_lt_of_le hb0 HBr.out.size
        have HSH1 := Lib.hid (short_any txt hsz wr)
        obtain ⟨t, ht⟩ : ∃ t, shortT txt = t := ⟨_, rfl⟩
        have hts : t.size ≤ 900 := by rw [← ht]; exact shortT_size txt
        have hts2 : (natsOf t).length ≤ 900 := by rw [natsOf_length]; exact hts
        have hts3 : t.size ≤ 4611686018427387904 := by omega
        rw [ht] at HSH1
        clear ht htxt c0 hsz hzl
        by_cases hsy : i < len1
        · obtain ⟨b1, off1, rfl, hb1, cc⟩ := HW1.out.2.2 i (Nat.lt_of_lt_of_le hsy HW1.out.1)
          obtain ⟨sy, hsyd⟩ : ∃ sy, z1 i = sy := ⟨_, rfl⟩
          rw [hsyd] at cc
          have hcs := cc
          clear hsyd cc
          have dsy : decide ((i : Int) < (len1 : Int)) = true := by simp; omega
          obtain ⟨x, y, num', hx, hy, hPS'⟩ := HS.out.app hin2 (natsOf_byte t) hts2 lim sy false
          have HSS := Lib.hid hPS'
          go_wp2_with fail
          refine HSH1.out.mono ?_
          rintro e W5 ⟨rfl, hk5⟩
          have HK5 : Hid (K2 (fun _ => False) W.heap.size W5 lb pb num lim a lb2 pb2 num lim b [(u13, tmap T)]) := Lib.hid (by obtain ⟨k, rfl⟩ := hk5; exact HKr.out.drewN k)
          have HB5 : Hid (Below W.heap.size W W5) := Lib.hid (by obtain ⟨k, rfl⟩ := hk5; exact HBr.out.trans ((below_drewN _ _ k).mono HBr.out.size))
          obtain ⟨capC, w6, hcv, hbC, hapC⟩ := k2_app HK5.out hn1 hn3 (up_lt HTO.out.1) t hts3 sy hx
          have HAP := Lib.hid hapC
          have hb5 : b1 < W5.heap.size := Nat.lt_of_lt_of_le hb1 HB5.out.size
          have hb6 : b1 < w6.heap.size := Nat.lt_of_lt_of_le hb5 hbC.size
          have hc5 := (HB5.out.cell (p := ⟨b1, off1 + i, none⟩) hb1).trans hcs
          have hc6 := (hbC.cell (p := ⟨b1, off1 + i, none⟩) hb5).trans hc5
          clear hapC hbC hk5 HSH1 hx
          go_wp2_with fail
          refine HAP.out.mono ?_
          rintro e W7 ⟨rfl, hk, hb, -⟩
          have HK7 := Lib.hid hk.swap
          have HB7 := Lib.hid (HB5.out.trans hb)
          obtain ⟨capD, w7, hcv7, hbD, hapD⟩ := k2_app HK7.out hn1 hn3 (up_lt HTO.out.2) t hts3 false hy
          have HAP7 := Lib.hid hapD
          clear hapD hbD hk hb HAP hcv HK5 HB5 hy
          go_wp2_with fail
          refine HAP7.out.mono ?_
          rintro e W8 ⟨rfl, hk, hb, -⟩
          obtain ⟨v', w9, hrun, hk2, hb2, -⟩ := hk.swap.row1 t (by rw [List.length_map, hcnt]; omega)
          rw [← tmap_snoc] at hk2
          have HKe := Lib.hid hk2
          have HBe := Lib.hid ((HB7.out.trans hb).trans hb2)
          clear hk hb hk2 hb2 HAP7 hcv7 HK7 HB7
          go_wp2_with (at_builtin; refine wpList_app_run rfl rfl hrun rfl rfl ?_)
          go_roundw
          case rel => exact ⟨i + 1, num', x, y, _, by go_num, hin2, hin1, HKe.out, HSS.out, HBe.out⟩
          case measure => simp [intOf]; omega
        · have dsy : decide ((i : Int) < (len1 : Int)) = false := by simp; omega
          obtain ⟨x, y, num', hx, hy, hPS'⟩ := HS.out.app hin2 (natsOf_byte t) hts2 lim false false
          have HSS := Lib.hid hPS'
          go_wp2_with fail
          refine HSH1.out.mono ?_
          rintro e W5 ⟨rfl, hk5⟩
          have HK5 : Hid (K2 (fun _ => False) W.heap.size W5 lb pb num lim a lb2 pb2 num lim b [(u13, tmap T)]) := Lib.hid (by obtain ⟨k, rfl⟩ := hk5; exact HKr.out.drewN k)
          have HB5 : Hid (Below W.heap.size W W5) := Lib.hid (by obtain ⟨k, rfl⟩ := hk5; exact HBr.out.trans ((below_drewN _ _ k).mono HBr.out.size))
          obtain ⟨capC, w6, hcv, hbC, hapC⟩ := k2_app HK5.out hn1 hn3 (up_lt HTO.out.1) t hts3 false hx
          have HAP := Lib.hid hapC
          clear hapC hbC hk5 HSH1 hx
          go_wp2_with fail
          refine HAP.out.mono ?_
          rintro e W7 ⟨rfl, hk, hb, -⟩
          have HK7 := Lib.hid hk.swap
          have HB7 := Lib.hid (HB5.out.trans hb)
          obtain ⟨capD, w7, hcv7, hbD, hapD⟩ := k2_app HK7.out hn1 hn3 (up_lt HTO.out.2) t hts3 false hy
          have HAP7 := Lib.hid hapD
          clear hapD hbD hk hb HAP hcv HK5 HB5 hy
          go_wp2_with fail
          refine HAP7.out.mono ?_
          rintro e W8 ⟨rfl, hk, hb, -⟩
          obtain ⟨v', w9, hrun, hk2, hb2, -⟩ := hk.swap.row1 t (by rw [List.length_map, hcnt]; omega)
          rw [← tmap_snoc] at hk2
          have HKe := Lib.hid hk2
          have HBe := Lib.hid ((HB7.out.trans hb).trans hb2)
          clear hk hb hk2 hb2 HAP7 hcv7 HK7 HB7
          go_wp2_with (at_builtin; refine wpList_app_run rfl rfl hrun rfl rfl ?_)
          go_roundw
          case rel => exact ⟨i + 1, num', x, y, _, by go_num, hin2, hin1, HKe.out, HSS.out, HBe.out⟩
          case measure => simp [intOf]; omega
      · obtain rfl : i = 40 := by omega
        have hi40' : (40 : Nat) ≤ 40 := Nat.le_refl _
        obtain ⟨N, a', n1, n2, n3, n4, n5, n6, n7, n8, n9, n10⟩ := HS.out.last hi40 HKr.out.one.ok
        obtain ⟨nl, hnl⟩ : ∃ nl, N.length = nl := ⟨_, rfl⟩
        have HN6 := Lib.hid n6
        have HN8 := Lib.hid n8
        have HN7 := Lib.hid n7
        have HN910 := Lib.hid (And.intro n9 n10)
        have HLS1 := Lib.hid (kw_list HKr.out.one (lt_big HTO.out.1) n1 n3 hnl)
        have HLS2 := Lib.hid fun (w : World) (h : Below wr.heap.size wr w) => kw_list (HKr.out.below h).swap.one (lt_big HTO.out.2) n2 n4 hnl
        have hnl62 : nl < 4611686018427387904 := by omega
        have HNL := Lib.hid (show (N.map strB).length = nl by rw [List.length_map]; exact hnl)
        have HNLN := Lib.hid hnl
        obtain ⟨tl, htl⟩ : ∃ tl, T.length = tl := ⟨_, rfl⟩
        have hT62 : tl < 4611686018427387904 := by omega
        have HT30 := Lib.hid (show T.length ≤ 1000000000 by omega)
        have HTL := Lib.hid htl
        clear n1 n2 n3 n4 n5 n6 n7 n8 n9 n10 hnl htl hcnt HS
        go_wp2_with fail
        refine HLS1.out.mono ?_
        rintro e Wa ⟨ad1, cp1, rfl, hst1, hnew1, hba⟩
        have HST1 := Lib.hid hst1
        have HBa := Lib.hid hba
        have HLS3 := Lib.hid (HLS2.out Wa hba)
        have HNW := Lib.hid hnew1
        clear hst1 hba hnew1 HLS1 HLS2
        go_wp2_with fail
        refine HLS3.out.mono ?_
        rintro e Wb ⟨ad2, cp2, rfl, hst2, hnew2, hbb⟩
        have HBb := Lib.hid (HBa.out.trans (hbb.mono HBa.out.size))
        have HKb := Lib.hid (HKr.out.own (G' := fun k => wr.heap.size ≤ k ∧ k < Wb.heap.size) HBb.out (fun k hk => .inr hk))
        have HSb := Lib.hid ((Stay.of_below (G := fun _ => True) hbb).strs HST1.out (fun _ _ _ => trivial))
        have HTX := Lib.hid (texts_any HSb.out hst2 HNL.out HNL.out cp1 cp2 hnl62)
        have HGa : Hid (∀ b off, ad1 = some ⟨b, off, none⟩ → wr.heap.size ≤ b ∧ b < Wb.heap.size) := Lib.hid fun b off he => ⟨(HNW.out b off he).1, Nat.lt_of_lt_of_le (HNW.out b off he).2 hbb.size⟩
        rw [decide_eq_true rfl] at HTX
        have HBw := Lib.hid (HBr.out.trans (HBb.out.mono HBr.out.size))
        have HSY := Lib.hid fun k : Nat => k2_sync (HKb.out.drewN k) hn1 hn3 HN6.out
        clear hst2 hnew2 hbb HLS3 HST1 HNW HBa HKr
        go_wp2_with fail
        refine HTX.out.mono ?_
        rintro e Wt ⟨rfl, kt, rfl⟩
        clear HTX
        go_wp2_with fail
        refine (HSY.out kt).mono ?_
        rintro e Ws ⟨rfl, hk, hb, hs⟩
        have HKs := Lib.hid hk
        have HBs := Lib.hid (HBw.out.trans (((below_drewN _ _ kt).mono (Nat.le_trans HBr.out.size HBb.out.size)).trans hb))
        have HSs := Lib.hid (((Stay.drewN _ Wb kt).trans hs).strs HSb.out HGa.out)
        clear hk hb hs HSY HKb HSb HGa HBw HBb
        go_wp2_with fail
        go_loopw [18] (fun u18 wq => ∃ j : Nat, u18 = .int .i64 j ∧ j ≤ nl ∧ Below Ws.heap.size Ws wq) (fun u18 _ => nl - (intOf u18).toNat)
        case atStart => exact ⟨0, rfl, Nat.zero_le _, Below.refl _ _⟩
        case round =>
          obtain ⟨j, rfl, hjn, hbq⟩ := hrel
          have HBq := Lib.hid hbq
          clear hbq
          by_cases hj : j < nl
          · have hjl : j < (N.map strB).length := by rw [HNL.out]; exact hj
            have hjN : j < N.length := by rw [HNLN.out]; exact hj
            obtain ⟨bn, on, rfl, hbn, cn0⟩ := strs_at HSs.out hjl
            rw [List.getElem_map] at cn0
            obtain ⟨s, hs⟩ : ∃ s, N[j] = s := ⟨_, rfl⟩
            rw [hs] at cn0
            obtain ⟨l, l1, l2, l3, l4, l5, l6⟩ := HN8.out s (by rw [← hs]; exact List.getElem_mem hjN)
            obtain ⟨ll, hll⟩ : ∃ ll, l.length = ll := ⟨_, rfl⟩
            have cq := (HBq.out.cell (p := ⟨bn, on + j, none⟩) hbn).trans cn0
            have hbnq : bn < wr.heap.size := Nat.lt_of_lt_of_le hbn HBq.out.size
            have HR1 := Lib.hid (kw_read (HKs.out.below HBq.out).one (strB s) 0 1048576 (by rw [strB_list]; exact l3) (by rw [strB_list]; exact l4) hll)
            have HR2 := Lib.hid fun (w : World) (h : Below Ws.heap.size Ws w) => kw_read (HKs.out.below h).swap.one (strB s) 0 1048576 (by rw [strB_list]; exact l5) (by rw [strB_list]; exact l6) hll
            have HLB := Lib.hid l2
            have HLL := Lib.hid hll
            clear hs l1 l2 l3 l4 l5 l6 hll cn0 hjl hjN
            go_wp2_with fail
            refine HR1.out.mono ?_
            rintro e Wx ⟨ad3, cp3, rfl, hby3, hno3, hb3⟩
            have HB3 := Lib.hid (HBq.out.trans (hb3.mono HBq.out.size))
            have HR3 := Lib.hid (HR2.out Wx HB3.out)
            have cx := (HB3.out.cell (p := ⟨bn, on + j, none⟩) hbn).trans ((HBq.out.cell (p := ⟨bn, on + j, none⟩) hbn).symm.trans cq)
            have hbnx : bn < Wx.heap.size := Nat.lt_of_lt_of_le hbn HB3.out.size
            have HBY := Lib.hid (And.intro hby3 hno3)
            clear hby3 hno3 hb3 HR1 HR2 cq
            go_wp2_with fail
            refine HR3.out.mono ?_
            rintro e Wy ⟨ad4, cp4, rfl, hby4, hno4, hb4⟩
            have HB4 := Lib.hid (HB3.out.trans (hb4.mono HB3.out.size))
            have hcv3 := conv_bytes (HBY.out.1.keep hb4) HLB.out HBY.out.2 cp3 ll HLL.out
            have hcv4 := conv_bytes hby4 HLB.out hno4 cp4 ll HLL.out
            clear hby4 hno4 hb4 HR3 HBY cx hbnx
            go_wp2
            go_roundw
            case rel => exact ⟨j + 1, by go_num, hj, HB4.out⟩
            case measure => simp [intOf]; omega
          · obtain rfl : j = nl := by omega
            have HKq := Lib.hid (HKs.out.below HBq.out).one.kf
            have HBz := Lib.hid (HBs.out.trans (HBq.out.mono HBs.out.size))
            have HC := Lib.hid (kf_crash0 HKq.out (lt_big HN7.out))
            clear HKs HBs HBq HSs
            go_wp2_with fail
            refine HC.out.mono ?_
            rintro e Wc ⟨rfl, hF, hb, -⟩
            have HBc := Lib.hid (HBz.out.trans hb)
            have htc : (a'.crash []).top < 1073741824 := Nat.lt_of_le_of_lt (crash_top a' []) (lt_big HN7.out)
            have HRP := Lib.hid (kf_replay hF htc 0 HN910.out.2 HN910.out.1 HT30.out HTL.out)
            clear hF hb htc HC HKq HBz
            go_wp2_with fail
            refine HRP.out.mono ?_
            rintro e Wd ⟨ad5, cp5, rfl, hF, hb⟩
            have HBd := Lib.hid (HBc.out.trans (hb.mono HBc.out.size))
            obtain ⟨ad6, cp6, e6, s6, -, -, -⟩ := (hF.row (u := .slice ad5 tl cp5) (us := tmap T) (by simp)).strs
            obtain ⟨ad7, cp7, e7, s7, -, -, -⟩ := (hF.row (u := u13) (us := tmap T) (by simp)).strs
            rw [List.length_map, HTL.out] at e6 e7
            simp only [Value.slice.injEq] at e6
            obtain ⟨rfl, -, rfl⟩ := e6
            subst e7
            have HTX := Lib.hid (texts_any s6 s7 (ln := tl) (mn := tl) (by rw [List.length_map]; exact HTL.out) (by rw [List.length_map]; exact HTL.out) cp5 cp7 hT62)
            rw [decide_eq_true rfl] at HTX
            clear hF hb HRP s6 s7
            go_wp2_with fail
            refine HTX.out.mono ?_
            rintro e We ⟨rfl, ke, rfl⟩
            go_wp2
            go_ret
            exact ⟨rfl, HBd.out.trans ((below_drewN _ _ ke).mono HBd.out.size)⟩
    · have hne : ¬ ((i : Int) < (len0 : Int)) := by omega
      obtain ⟨N, a', n1, n2, n3, n4, n5, n6, n7, n8, n9, n10⟩ := HS.out.last hi40 HKr.out.one.ok
      obtain ⟨nl, hnl⟩ : ∃ nl, N.length = nl := ⟨_, rfl⟩
      have HN6 := Lib.hid n6
      have HN8 := Lib.hid n8
      have HN7 := Lib.hid n7
      have HN910 := Lib.hid (And.intro n9 n10)
      have HLS1 := Lib.hid (kw_list HKr.out.one (lt_big HTO.out.1) n1 n3 hnl)
      have HLS2 := Lib.hid fun (w : World) (h : Below wr.heap.size wr w) => kw_list (HKr.out.below h).swap.one (lt_big HTO.out.2) n2 n4 hnl
      have hnl62 : nl < 4611686018427387904 := by omega
      have HNL := Lib.hid (show (N.map strB).length = nl by rw [List.length_map]; exact hnl)
      have HNLN := Lib.hid hnl
      obtain ⟨tl, htl⟩ : ∃ tl, T.length = tl := ⟨_, rfl⟩
      have hT62 : tl < 4611686018427387904 := by omega
      have HT30 := Lib.hid (show T.length ≤ 1000000000 by omega)
      have HTL := Lib.hid htl
      clear n1 n2 n3 n4 n5 n6 n7 n8 n9 n10 hnl htl hcnt HS
      go_wp2_with fail
      refine HLS1.out.mono ?_
      rintro e Wa ⟨ad1, cp1, rfl, hst1, hnew1, hba⟩
      have HST1 := Lib.hid hst1
      have HBa := Lib.hid hba
      have HLS3 := Lib.hid (HLS2.out Wa hba)
      have HNW := Lib.hid hnew1
      clear hst1 hba hnew1 HLS1 HLS2
      go_wp2_with fail
      refine HLS3.out.mono ?_
      rintro e Wb ⟨ad2, cp2, rfl, hst2, hnew2, hbb⟩
      have HBb := Lib.hid (HBa.out.trans (hbb.mono HBa.out.size))
      have HKb := Lib.hid (HKr.out.own (G' := fun k => wr.heap.size ≤ k ∧ k < Wb.heap.size) HBb.out (fun k hk => .inr hk))
      have HSb := Lib.hid ((Stay.of_below (G := fun _ => True) hbb).strs HST1.out (fun _ _ _ => trivial))
      have HTX := Lib.hid (texts_any HSb.out hst2 HNL.out HNL.out cp1 cp2 hnl62)
      have HGa : Hid (∀ b off, ad1 = some ⟨b, off, none⟩ → wr.heap.size ≤ b ∧ b < Wb.heap.size) := Lib.hid fun b off he => ⟨(HNW.out b off he).1, Nat.lt_of_lt_of_le (HNW.out b off he).2 hbb.size⟩
      rw [decide_eq_true rfl] at HTX
      have HBw := Lib.hid (HBr.out.trans (HBb.out.mono HBr.out.size))
      have HSY := Lib.hid fun k : Nat => k2_sync (HKb.out.drewN k) hn1 hn3 HN6.out
      clear hst2 hnew2 hbb HLS3 HST1 HNW HBa HKr
      go_wp2_with fail
      refine HTX.out.mono ?_
      rintro e Wt ⟨rfl, kt, rfl⟩
      clear HTX
      go_wp2_with fail
      refine (HSY.out kt).mono ?_
      rintro e Ws ⟨rfl, hk, hb, hs⟩
      have HKs := Lib.hid hk
      have HBs := Lib.hid (HBw.out.trans (((below_drewN _ _ kt).mono (Nat.le_trans HBr.out.size HBb.out.size)).trans hb))
      have HSs := Lib.hid (((Stay.drewN _ Wb kt).trans hs).strs HSb.out HGa.out)
      clear hk hb hs HSY HKb HSb HGa HBw HBb
      go_wp2_with fail
      go_loopw [18] (fun u18 wq => ∃ j : Nat, u18 = .int .i64 j ∧ j ≤ nl ∧ Below Ws.heap.size Ws wq) (fun u18 _ => nl - (intOf u18).toNat)
      case atStart => exact ⟨0, rfl, Nat.zero_le _, Below.refl _ _⟩
      case round =>
        obtain ⟨j, rfl, hjn, hbq⟩ := hrel
        have HBq := Lib.hid hbq
        clear hbq
        by_cases hj : j < nl
        · have hjl : j < (N.map strB).length := by rw [HNL.out]; exact hj
          have hjN : j < N.length := by rw [HNLN.out]; exact hj
          obtain ⟨bn, on, rfl, hbn, cn0⟩ := strs_at HSs.out hjl
          rw [List.getElem_map] at cn0
          obtain ⟨s, hs⟩ : ∃ s, N[j] = s := ⟨_, rfl⟩
          rw [hs] at cn0
          obtain ⟨l, l1, l2, l3, l4, l5, l6⟩ := HN8.out s (by rw [← hs]; exact List.getElem_mem hjN)
          obtain ⟨ll, hll⟩ : ∃ ll, l.length = ll := ⟨_, rfl⟩
          have cq := (HBq.out.cell (p := ⟨bn, on + j, none⟩) hbn).trans cn0
          have hbnq : bn < wr.heap.size := Nat.lt_of_lt_of_le hbn HBq.out.size
          have HR1 := Lib.hid (kw_read (HKs.out.below HBq.out).one (strB s) 0 1048576 (by rw [strB_list]; exact l3) (by rw [strB_list]; exact l4) hll)
          have HR2 := Lib.hid fun (w : World) (h : Below Ws.heap.size Ws w) => kw_read (HKs.out.below h).swap.one (strB s) 0 1048576 (by rw [strB_list]; exact l5) (by rw [strB_list]; exact l6) hll
          have HLB := Lib.hid l2
          have HLL := Lib.hid hll
          clear hs l1 l2 l3 l4 l5 l6 hll cn0 hjl hjN
          go_wp2_with fail
          refine HR1.out.mono ?_
          rintro e Wx ⟨ad3, cp3, rfl, hby3, hno3, hb3⟩
          have HB3 := Lib.hid (HBq.out.trans (hb3.mono HBq.out.size))
          have HR3 := Lib.hid (HR2.out Wx HB3.out)
          have cx := (HB3.out.cell (p := ⟨bn, on + j, none⟩) hbn).trans ((HBq.out.cell (p := ⟨bn, on + j, none⟩) hbn).symm.trans cq)
          have hbnx : bn < Wx.heap.size := Nat.lt_of_lt_of_le hbn HB3.out.size
          have HBY := Lib.hid (And.intro hby3 hno3)
          clear hby3 hno3 hb3 HR1 HR2 cq
          go_wp2_with fail
          refine HR3.out.mono ?_
          rintro e Wy ⟨ad4, cp4, rfl, hby4, hno4, hb4⟩
          have HB4 := Lib.hid (HB3.out.trans (hb4.mono HB3.out.size))
          have hcv3 := conv_bytes (HBY.out.1.keep hb4) HLB.out HBY.out.2 cp3 ll HLL.out
          have hcv4 := conv_bytes hby4 HLB.out hno4 cp4 ll HLL.out
          clear hby4 hno4 hb4 HR3 HBY cx hbnx
          go_wp2
          go_roundw
          case rel => exact ⟨j + 1, by go_num, hj, HB4.out⟩
          case measure => simp [intOf]; omega
        · obtain rfl : j = nl := by omega
          have HKq := Lib.hid (HKs.out.below HBq.out).one.kf
          have HBz := Lib.hid (HBs.out.trans (HBq.out.mono HBs.out.size))
          have HC := Lib.hid (kf_crash0 HKq.out (lt_big HN7.out))
          clear HKs HBs HBq HSs
          go_wp2_with fail
          refine HC.out.mono ?_
          rintro e Wc ⟨rfl, hF, hb, -⟩
          have HBc := Lib.hid (HBz.out.trans hb)
          have htc : (a'.crash []).top < 1073741824 := Nat.lt_of_le_of_lt (crash_top a' []) (lt_big HN7.out)
          have HRP := Lib.hid (kf_replay hF htc 0 HN910.out.2 HN910.out.1 HT30.out HTL.out)
          clear hF hb htc HC HKq HBz
          go_wp2_with fail
          refine HRP.out.mono ?_
          rintro e Wd ⟨ad5, cp5, rfl, hF, hb⟩
          have HBd := Lib.hid (HBc.out.trans (hb.mono HBc.out.size))
          obtain ⟨ad6, cp6, e6, s6, -, -, -⟩ := (hF.row (u := .slice ad5 tl cp5) (us := tmap T) (by simp)).strs
          obtain ⟨ad7, cp7, e7, s7, -, -, -⟩ := (hF.row (u := u13) (us := tmap T) (by simp)).strs
          rw [List.length_map, HTL.out] at e6 e7
          simp only [Value.slice.injEq] at e6
          obtain ⟨rfl, -, rfl⟩ := e6
          subst e7
          have HTX := Lib.hid (texts_any s6 s7 (ln := tl) (mn := tl) (by rw [List.length_map]; exact HTL.out) (by rw [List.length_map]; exact HTL.out) cp5 cp7 hT62)
          rw [decide_eq_true rfl] at HTX
          clear hF hb HRP s6 s7
          go_wp2_with fail
          refine HTX.out.mono ?_
          rintro e We ⟨rfl, ke, rfl⟩
          go_wp2
          go_ret
          exact ⟨rfl, HBd.out.trans ((below_drewN _ _ ke).mono HBd.out.size)⟩
end walSyncs
end Go.Proofs.YtadnecgcoceklaaGreatDoor
