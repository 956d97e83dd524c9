/-
  The law WalSplits, walked.
-/
import Derived.Test.YtadnecgcoceklaaGreatDoorWalK2
import Derived.Test.YtadnecgcoceklaaGreatDoorMF
namespace Go.Proofs.YtadnecgcoceklaaGreatDoor
open Go.RowKit Go.Maps
namespace walSplits

abbrev tmap (l : List Rec) : List ByteArray := l.map strOf
theorem tmap_snoc (l : List Rec) (t : ByteArray) : tmap (l ++ [natsOf t]) = tmap l ++ [t] := by simp [strOf_natsOf]
theorem up_lt {n : Nat} (h : n < 300) : n + 1 < 1073741824 := by omega
theorem lt_big {n : Nat} (h : n < 1000) : n < 1073741824 := by omega
theorem lt_two {n : Nat} (h : n < 300) : 2 * n < 1073741824 := by omega
theorem strs_at {w : World} {ad : Option Addr} {l : List ByteArray} (h : StrsAt w ad l) {i : Nat} (hi : i < l.length) : ∃ b off, ad = some ⟨b, off, none⟩ ∧ b < w.heap.size ∧ w.cell? ⟨b, off + i, none⟩ = some (.string l[i]) := by
  rcases h with h | ⟨b, off, e, hl, hc⟩
  · rw [h] at hi; cases hi
  · exact ⟨b, off, e, hl, hc i hi⟩
theorem strs_from {w : World} {ad : Option Addr} {cap q : Nat} {l : List ByteArray} (h : StrsAt w ad l) (hq : l.length ≤ cap) : StrsAt w (part ad cap q) (l.drop q) := by
  rcases h with h | ⟨b, off, e, hl, hc⟩
  · exact .inl (by rw [h]; exact List.drop_nil)
  · subst e
    by_cases hd : l.drop q = []
    · exact .inl hd
    · have hql : q < l.length := Classical.byContradiction fun hn => hd (List.drop_eq_nil_of_le (by omega))
      refine .inr ⟨b, off + q, ?_, hl, fun i hi => ?_⟩
      · unfold part; rw [if_neg (by omega)]; simp [addr_add]
      · rw [List.length_drop] at hi
        rw [List.getElem_drop, Nat.add_assoc]; exact hc (q + i) (by omega)
theorem run_strs_from {w : World} {a : Option Addr} (len cap q : Nat) (hq : q ≤ len) (_ : len ≤ cap) :
    (Instr.slice 23 (.slice a len cap) (some (.int .i64 (q : Int))) none none).run Tryz.prog w = .ok (.slice (part a cap q) (len - q) (cap - q)) w := by
  have hel : Tryz.prog.elem 23 = 9 := by kernel_rfl
  have h := run_slice_l (P := Tryz.prog) w 23 a len cap (by rw [hel]; exact Tryz.underlying23) .i64 q (by omega) (by omega)
  rw [hel] at h
  refine Eq.trans h ?_
  cases a <;> simp [go_sem, sliced, part] <;> split <;> simp_all
theorem sum_lim {R lim : Nat} (h : R + 1 = lim) (hl : lim ≤ 900) : wrap64 (1 + (R : Int)) = (lim : Int) := by unfold wrap64; omega
theorem sub_back {R lim : Nat} (h : R + 1 = lim) (hl : lim ≤ 900) : wrap64 ((lim : Int) - 1) = (R : Int) := by unfold wrap64; omega
theorem len_up {n m : Nat} (h : n + 1 = m) (hm : m ≤ 100) : wrap64 (1 + (n : Int)) = (m : Int) := by unfold wrap64; omega
theorem len_dn {n m q : Nat} (h : n - m = q) (hm : m ≤ n) (hn : n ≤ 100) : wrap64 ((n : Int) - (m : Int)) = (q : Int) := by unfold wrap64; omega
theorem u_nat {n : Nat} (h : n ≤ 100) : IntKind.u64.wrap (n : Int) = (n : Int) := by simp [IntKind.wrap, IntKind.bits, IntKind.signed]; omega
set_option maxRecDepth 100000 in
set_option maxHeartbeats 8000000 in
theorem walk (a0 : Option Addr) (len0 cap0 : Nat) (z0 : List ByteArray) (a1 a2 : Int) (W : World) (w0 : IsStrs W a0 len0 cap0 z0) (_ : (Lit.int .i64 a1).wf = true) (_ : (Lit.int .i64 a2).wf = true) (hv : Vars W) :
    Calls Tryz.prog 5 #[.slice a0 len0 cap0, .int .i64 a1, .int .i64 a2] W fun e w' => e = .returned (.bool true) ∧ Below W.heap.size W w' := by
  obtain ⟨R, hR1, hR2, hR3, -⟩ := modU a1 900 (by omega) (by omega)
  obtain ⟨lim, hlim⟩ : ∃ lim, R + 1 = lim := ⟨_, rfl⟩
  have hl1 : 1 ≤ lim := by omega
  have hl2 : lim ≤ 900 := by omega
  have hw1 := sum_lim hlim hl2
  have HW0 := Lib.hid w0
  have HL := Lib.hid (logged_any W hv)
  have HV := Lib.hid hv
  obtain ⟨A0, B0, hz0, hz1, hk0⟩ := QS.start lim hl1 hl2
  have HZ0 := Lib.hid (And.intro hz0 hz1)
  have HK0 := Lib.hid hk0
  clear w0 hv hR1 hlim hz0 hz1 hk0
  go_enter Tryz.func5, Tryz.ntmps5
  go_wp2_with fail
  refine HL.out.mono ?_
  rintro e W1 ⟨rfl, b1⟩
  have HB1 := Lib.hid b1
  have HN := Lib.hid (kf_made (B := W.heap.size) (w := W1) b1.size ((VB.start HV.out).below b1) 4194304 (by omega))
  clear b1 HL
  go_wp2_with fail
  refine HN.out.mono ?_
  rintro e W2 ⟨rfl, hF, hb⟩
  have HB2 := Lib.hid (HB1.out.trans (hb.mono HB1.out.size))
  have HN2 := Lib.hid (d2_made hF 4194304 (by omega))
  obtain ⟨pb, hpb⟩ : ∃ pb, W1.heap.size = pb := ⟨_, rfl⟩
  rw [hpb] at HN2 ⊢
  clear hF hb HN HB1 hpb
  go_wp2_with fail
  refine HN2.out.mono ?_
  rintro e W3 ⟨rfl, hF, hb⟩
  have HB3 := Lib.hid (HB2.out.trans (hb.mono HB2.out.size))
  have HN3 := Lib.hid (d2_new hF 1 (lim : Int) ⟨by omega, by omega⟩ (by show (0 : Nat) + 1 < _; omega) HZ0.out.1 (n' := 1) (l' := lim) rfl (Int.toNat_natCast lim))
  obtain ⟨pb2, hpb⟩ : ∃ pb, W2.heap.size = pb := ⟨_, rfl⟩
  rw [hpb] at HN3 ⊢
  clear hF hb HN2 HB2 hpb
  go_wp2_with fail
  refine HN3.out.mono ?_
  rintro e W4 ⟨lb, rfl, hF, hb⟩
  have HB4 := Lib.hid (HB3.out.trans hb)
  have HN4 := Lib.hid (l2_new hF 7 1048576 ⟨by omega, by omega⟩ (by show (0 : Nat) + 1 < _; omega) HZ0.out.2 (n' := 7) (l' := 1048576) rfl rfl)
  clear hF hb HN3 HB3
  go_wp2_with fail
  refine HN4.out.mono ?_
  rintro e W5 ⟨lb2, rfl, hk, hb⟩
  have HB5 := Lib.hid (HB4.out.trans hb)
  have HK5 := Lib.hid hk.none
  clear hk hb HN4 HB4 HZ0
  go_wp2_with fail
  go_loopw [13, 14] (fun u13 u14 wr => ∃ (i num : Nat) (a b : A) (T : List Rec), u14 = .int .i64 i ∧ i ≤ 40 ∧ i ≤ len0 ∧ K2 (fun _ => False) W.heap.size wr lb pb num lim a lb2 pb2 7 1048576 b [(u13, tmap T)] ∧ QS a b i num T ∧ Below W.heap.size W wr) (fun _ u14 _ => 40 - (intOf u14).toNat)
  case atStart => exact ⟨0, 1, A0, B0, [], rfl, by omega, by omega, HK5.out, HK0.out, HB5.out⟩
  case round =>
    obtain ⟨i, num, a, b, T, rfl, hi40, hil, hK, hPS, hB⟩ := hrel
    have HKr := Lib.hid hK
    have HS := Lib.hid hPS
    have HBr := Lib.hid hB
    obtain ⟨ht1, ht2, hn1, hn2⟩ := hPS.top hi40
    have HTO := Lib.hid (And.intro ht1 ht2)
    have hcnt := hPS.cnt
    have hn3 : num ≤ 999999 := by omega
    clear hK hPS hB ht1 ht2 HK5 HK0 HB5
    by_cases hin1 : i < len0
    · by_cases hin2 : i < 40
      · have hzl : i < z0.length := by rw [HW0.out.1]; exact hin1
        obtain ⟨b0, off0, rfl, hb0, c0⟩ := strs_at HW0.out.2.1 hzl
        obtain ⟨txt, htxt⟩ : ∃ txt, z0[i] = txt := ⟨_, rfl⟩
        have hsz : txt.size ≤ 9223372036854775807 := by rw [← htxt]; exact HW0.out.2.2.2 _ (List.getElem_mem hzl)
        rw [htxt] at c0
        have cr0 := (HBr.out.cell (p := ⟨b0, off0 + i, none⟩) hb0).trans c0
        have hbr0 : b0 < wr.heap.size := Nat.lt_of_lt_of_le hb0 HBr.out.size
        have HSH1 := Lib.hid (short_any txt hsz wr)
        obtain ⟨t, ht⟩ : ∃ t, shortT txt = t := ⟨_, rfl⟩
        have hts : t.size ≤ 900 := by rw [← ht]; exact shortT_size txt
        have hts2 : (natsOf t).length ≤ 900 := by rw [natsOf_length]; exact hts
        have hts3 : t.size ≤ 4611686018427387904 := by omega
        rw [ht] at HSH1
        clear ht htxt c0 hsz hzl
        by_cases hsy : i % 2 = 0
        · have dsy : ((i : Int) % 2 == 0) = true := by simp; omega
          have dsy2 : (i : Int) % 2 = 0 := by omega
          obtain ⟨x, y, num', hx, hy, hPS'⟩ := HS.out.app hin2 (natsOf_byte t) hts2 lim true false
          have HSS := Lib.hid hPS'
          go_wp2_with fail
          refine HSH1.out.mono ?_
          rintro e W5 ⟨rfl, hk5⟩
          have HK5 : Hid (K2 (fun _ => False) W.heap.size W5 lb pb num lim a lb2 pb2 7 1048576 b [(u13, tmap T)]) := Lib.hid (by obtain ⟨k, rfl⟩ := hk5; exact HKr.out.drewN k)
          have HB5 : Hid (Below W.heap.size W W5) := Lib.hid (by obtain ⟨k, rfl⟩ := hk5; exact HBr.out.trans ((below_drewN _ _ k).mono HBr.out.size))
          obtain ⟨capC, w6, hcv, hbC, hapC⟩ := k2_app HK5.out hn1 hn3 (up_lt HTO.out.1) t hts3 true hx
          have HAP := Lib.hid hapC
          clear hapC hbC hk5 HSH1 hx
          go_wp2_with fail
          refine HAP.out.mono ?_
          rintro e W7 ⟨rfl, hk, hb, -⟩
          have HK7 := Lib.hid hk.swap
          have HB7 := Lib.hid (HB5.out.trans hb)
          obtain ⟨capD, w7, hcv7, hbD, hapD⟩ := k2_app HK7.out (by omega) (by omega) (up_lt HTO.out.2) t hts3 false hy
          have HAP7 := Lib.hid hapD
          clear hapD hbD hk hb HAP hcv HK5 HB5 hy
          go_wp2_with fail
          refine HAP7.out.mono ?_
          rintro e W8 ⟨rfl, hk, hb, -⟩
          obtain ⟨v', w9, hrun, hk2, hb2, -⟩ := hk.swap.row1 t (by rw [List.length_map, hcnt]; omega)
          rw [← tmap_snoc] at hk2
          have HKe := Lib.hid hk2
          have HBe := Lib.hid ((HB7.out.trans hb).trans hb2)
          clear hk hb hk2 hb2 HAP7 hcv7 HK7 HB7
          go_wp2_with (at_builtin; refine wpList_app_run rfl rfl hrun rfl rfl ?_)
          go_roundw
          case rel => exact ⟨i + 1, num', x, y, _, by go_num, hin2, hin1, HKe.out, HSS.out, HBe.out⟩
          case measure => simp [intOf]; omega
        · have dsy : ((i : Int) % 2 == 0) = false := by simp; omega
          have dsy2 : ¬ ((i : Int) % 2 = 0) := by omega
          obtain ⟨x, y, num', hx, hy, hPS'⟩ := HS.out.app hin2 (natsOf_byte t) hts2 lim false false
          have HSS := Lib.hid hPS'
          go_wp2_with fail
          refine HSH1.out.mono ?_
          rintro e W5 ⟨rfl, hk5⟩
          have HK5 : Hid (K2 (fun _ => False) W.heap.size W5 lb pb num lim a lb2 pb2 7 1048576 b [(u13, tmap T)]) := Lib.hid (by obtain ⟨k, rfl⟩ := hk5; exact HKr.out.drewN k)
          have HB5 : Hid (Below W.heap.size W W5) := Lib.hid (by obtain ⟨k, rfl⟩ := hk5; exact HBr.out.trans ((below_drewN _ _ k).mono HBr.out.size))
          obtain ⟨capC, w6, hcv, hbC, hapC⟩ := k2_app HK5.out hn1 hn3 (up_lt HTO.out.1) t hts3 false hx
          have HAP := Lib.hid hapC
          clear hapC hbC hk5 HSH1 hx
          go_wp2_with fail
          refine HAP.out.mono ?_
          rintro e W7 ⟨rfl, hk, hb, -⟩
          have HK7 := Lib.hid hk.swap
          have HB7 := Lib.hid (HB5.out.trans hb)
          obtain ⟨capD, w7, hcv7, hbD, hapD⟩ := k2_app HK7.out (by omega) (by omega) (up_lt HTO.out.2) t hts3 false hy
          have HAP7 := Lib.hid hapD
          clear hapD hbD hk hb HAP hcv HK5 HB5 hy
          go_wp2_with fail
          refine HAP7.out.mono ?_
          rintro e W8 ⟨rfl, hk, hb, -⟩
          obtain ⟨v', w9, hrun, hk2, hb2, -⟩ := hk.swap.row1 t (by rw [List.length_map, hcnt]; omega)
          rw [← tmap_snoc] at hk2
          have HKe := Lib.hid hk2
          have HBe := Lib.hid ((HB7.out.trans hb).trans hb2)
          clear hk hb hk2 hb2 HAP7 hcv7 HK7 HB7
          go_wp2_with (at_builtin; refine wpList_app_run rfl rfl hrun rfl rfl ?_)
          go_roundw
          case rel => exact ⟨i + 1, num', x, y, _, by go_num, hin2, hin1, HKe.out, HSS.out, HBe.out⟩
          case measure => simp [intOf]; omega
      · have hne : ¬ ((i : Int) < 40) := by omega
        obtain ⟨M, hM1, hM2, hM3, -⟩ := modU a2 (num : Int) (by omega) (by omega)
        obtain ⟨bl, hbl⟩ : ∃ bl, M + 1 = bl := ⟨_, rfl⟩
        obtain ⟨n1, n2, n3, n4, C, a', n5, n6, n7, n8, n9, n10, n11⟩ := HS.out.last hi40 bl (by omega) (by omega)
        obtain ⟨tl, htl⟩ : ∃ tl, T.length = tl := ⟨_, rfl⟩
        obtain ⟨cl, hcl⟩ : ∃ cl, C.length = cl := ⟨_, rfl⟩
        obtain ⟨tu, htu⟩ : ∃ tu, tl + 1 = tu := ⟨_, rfl⟩
        obtain ⟨q, hq⟩ : ∃ q, tl - cl = q := ⟨_, rfl⟩
        have htl40 : tl ≤ 100 := by omega
        have hct : cl ≤ tl := by omega
        have hbl9 : bl ≤ 900 := by omega
        have htu9 : tu ≤ 100 := by omega
        have hnu9 : num ≤ 100 := by omega
        have hqt : q ≤ tl := by omega
        have hcq : tl - q = cl := by omega
        have hnz : ¬ ((num : Int) = 0) := by omega
        have htn : ¬ ((tu : Int) < (num : Int)) := by omega
        have hle : (cl : Int) ≤ (tl : Int) := by omega
        have hb1M : bl - 1 = M := by omega
        have HT62 := Lib.hid (show tl < 4611686018427387904 by omega)
        have HC62 := Lib.hid (show cl < 4611686018427387904 by omega)
        have HT30 := Lib.hid (show T.length ≤ 1000000000 by omega)
        have HC30 := Lib.hid (show C.length ≤ 1000000000 by omega)
        have dgt2 : decide (tu < num) = false := decide_eq_false (by omega)
        have dgt3 : decide (num ≤ tu) = true := decide_eq_true (by omega)
        have dle2 : decide (cl ≤ tl) = true := decide_eq_true hct
        have dgt : decide ((tu : Int) < (num : Int)) = false := decide_eq_false htn
        have dle : decide ((cl : Int) ≤ (tl : Int)) = true := decide_eq_true hle
        have hsum := sum_lim hbl hbl9
        have hsubb := sub_back hbl hbl9
        have hup := len_up htu htu9
        have hdn := len_dn hq hct htl40
        have hun := u_nat hnu9
        have HTL := Lib.hid htl
        have HCL := Lib.hid hcl
        rw [hb1M] at n6
        have HN1 := Lib.hid n1
        have HN5 := Lib.hid n5
        have HN6 := Lib.hid n6
        have HN78 := Lib.hid (And.intro n7 n8)
        have HN10 := Lib.hid (show T.drop q = C by rw [← hq, ← htl, ← hcl]; exact n10)
        have HN11 := Lib.hid n11
        have HA := Lib.hid (kf_replay0 HKr.out.one.kf (lt_big (Nat.lt_trans HTO.out.1 (by decide))) 1 n3 n1 HT30.out htl)
        have HBR := Lib.hid fun (w : World) (h : Below wr.heap.size wr w) => kf_replay0 (HKr.out.below h).swap.one.kf (lt_big (Nat.lt_trans HTO.out.2 (by decide))) 0 n4 n2 HT30.out htl
        obtain ⟨adt, capt, et, srt, hct2, hot, -⟩ := (HKr.out.one.kf.row (u := u13) (us := tmap T) (by simp)).strs
        rw [List.length_map, htl] at et hct2
        subst et
        have HST := Lib.hid srt
        have hpl := fun wx : World => run_strs_from (w := wx) (a := adt) tl capt q hqt hct2
        rw [hcq] at hpl
        have HCAP := Lib.hid hct2
        clear n1 n2 n3 n4 n5 n6 n7 n8 n9 n10 n11 htl hcl hcnt HS hM1 hbl hq htu hb1M srt hot hct2 hcq htn hle hbl9 htu9 hnu9 hct htl40
        go_wp2_with fail
        refine HA.out.mono ?_
        rintro e Wa ⟨ad1, cp1, rfl, hst1, hnew1, hba⟩
        have HST1 := Lib.hid hst1
        have HBa := Lib.hid hba
        have HB2 := Lib.hid (HBR.out Wa hba)
        clear hst1 hba hnew1 HA HBR
        go_wp2_with fail
        refine HB2.out.mono ?_
        rintro e Wb ⟨ad2, cp2, rfl, hst2, hnew2, hbb⟩
        have HBb := Lib.hid (HBa.out.trans (hbb.mono HBa.out.size))
        have HKb := Lib.hid (HKr.out.below HBb.out)
        have HSb := Lib.hid ((Stay.of_below (G := fun _ => True) hbb).strs HST1.out (fun _ _ _ => trivial))
        have HSt := Lib.hid ((Stay.of_below (G := fun _ => True) HBb.out).strs HST.out (fun _ _ _ => trivial))
        have HX1 := Lib.hid (texts_any HSb.out HSt.out (ln := tl) (mn := tl) (by rw [List.length_map]; exact HTL.out) (by rw [List.length_map]; exact HTL.out) cp1 capt HT62.out)
        have HX2 := Lib.hid fun k : Nat => texts_any (w := Wb.drewN k) ((Stay.drewN (fun _ => True) Wb k).strs hst2 (fun _ _ _ => trivial)) ((Stay.drewN (fun _ => True) Wb k).strs HSt.out (fun _ _ _ => trivial)) (ln := tl) (mn := tl) (by rw [List.length_map]; exact HTL.out) (by rw [List.length_map]; exact HTL.out) cp2 capt HT62.out
        rw [decide_eq_true rfl] at HX1 HX2
        clear hst2 hnew2 hbb HB2 HST1 HBa
        go_wp2_with fail
        refine HX1.out.mono ?_
        rintro e Wt ⟨rfl, kt, rfl⟩
        clear HX1
        go_wp2_with fail
        refine (HX2.out kt).mono ?_
        rintro e Wu ⟨rfl, ku, hWu⟩
        have HBu : Hid (Below wr.heap.size wr Wu) := Lib.hid (by rw [hWu]; exact HBb.out.trans (((below_drewN _ _ kt).trans (below_drewN _ _ ku)).mono HBb.out.size))
        have HKu := Lib.hid (HKr.out.below HBu.out)
        have HNU := Lib.hid (kw_number HKu.out.one)
        have HNV := Lib.hid (kw_number HKu.out.swap.one)
        have HRC := Lib.hid (kf_replay0 HKu.out.one.kf (lt_big (Nat.lt_trans HTO.out.1 (by decide))) (bl : Int) HN5.out HN1.out HC30.out HCL.out)
        clear HX2 hWu HKb HSb HSt HBb
        go_wp2_with fail
        refine HNU.out.mono ?_
        rintro e Wv ⟨rfl, rfl⟩
        go_wp2_with fail
        refine HNV.out.mono ?_
        rintro e Wv ⟨rfl, rfl⟩
        go_wp2_with fail
        refine HNU.out.mono ?_
        rintro e Wv ⟨rfl, rfl⟩
        clear HNU HNV
        go_wp2_with fail
        refine HRC.out.mono ?_
        rintro e Wc ⟨ad3, cp3, rfl, hst3, hnew3, hbc⟩
        have HBc := Lib.hid (HBu.out.trans (hbc.mono HBu.out.size))
        have HKc := Lib.hid (HKu.out.own (G' := fun k => Wu.heap.size ≤ k ∧ k < Wc.heap.size) hbc (fun k hk => .inr hk))
        have HS3 := Lib.hid hst3
        have HG3 := Lib.hid hnew3
        have HDR := Lib.hid (kf_drop HKc.out.one.kf (lt_two HTO.out.1) (bl : Int) HN6.out)
        have HBw := Lib.hid (HBr.out.trans (HBc.out.mono HBr.out.size))
        clear hst3 hnew3 hbc HRC HKr HKu HBu HBc
        go_wp2_with fail
        refine HDR.out.mono ?_
        rintro e Wd ⟨rfl, hF, hb, hs⟩
        have HBd := Lib.hid (HBw.out.trans hb)
        have HS4 := Lib.hid (hs.strs HS3.out HG3.out)
        have HRD := Lib.hid (kf_replay0 hF (lt_big HN11.out) 0 HN78.out.2 HN78.out.1 HC30.out HCL.out)
        have hrw := hF.row (u := .slice adt tl capt) (us := tmap T) (by simp)
        obtain ⟨ad6, cp6, e6, s6, -, -, -⟩ := hrw.strs
        rw [List.length_map, HTL.out] at e6
        simp only [Value.slice.injEq] at e6
        obtain ⟨rfl, -, rfl⟩ := e6
        have HS6 := Lib.hid s6
        clear hF hb hs HDR HKc HBw HS3 HG3 hrw s6
        go_wp2_with fail
        refine HRD.out.mono ?_
        rintro e We ⟨ad5, cp5, rfl, hst5, hnew5, hbe⟩
        have HBe := Lib.hid (HBd.out.trans (hbe.mono HBd.out.size))
        have HS7 := Lib.hid ((Stay.of_below (G := fun _ => True) hbe).strs HS4.out (fun _ _ _ => trivial))
        have HS8 := Lib.hid ((Stay.of_below (G := fun _ => True) hbe).strs HS6.out (fun _ _ _ => trivial))
        have HS9 : Hid (StrsAt We (part adt capt q) (tmap C)) := Lib.hid (by
          have h := strs_from (cap := capt) (q := q) HS8.out (by rw [List.length_map, HTL.out]; exact HCAP.out)
          rw [← List.map_drop, HN10.out] at h; exact h)
        have HX3 := Lib.hid (texts_any HS7.out hst5 (ln := cl) (mn := cl) (by rw [List.length_map]; exact HCL.out) (by rw [List.length_map]; exact HCL.out) cp3 cp5 HC62.out)
        have HX4 := Lib.hid fun k : Nat => texts_any (w := We.drewN k) ((Stay.drewN (fun _ => True) We k).strs HS7.out (fun _ _ _ => trivial)) ((Stay.drewN (fun _ => True) We k).strs HS9.out (fun _ _ _ => trivial)) (ln := cl) (mn := cl) (by rw [List.length_map]; exact HCL.out) (by rw [List.length_map]; exact HCL.out) cp3 (capt - q) HC62.out
        rw [decide_eq_true rfl] at HX3 HX4
        clear hst5 hnew5 hbe HRD HS4 HS6 HS7 HS8 HS9 HBd
        go_wp2_with fail
        refine HX3.out.mono ?_
        rintro e Wf ⟨rfl, kf, rfl⟩
        clear HX3
        go_wp2_with fail
        refine (HX4.out kf).mono ?_
        rintro e Wg ⟨rfl, kg, rfl⟩
        clear HX4
        go_wp2
        go_ret
        exact ⟨rfl, HBe.out.trans ((below_drewN _ _ (kf + kg)).mono HBe.out.size)⟩
    · have hne : ¬ ((i : Int) < (len0 : Int)) := by omega
      obtain ⟨M, hM1, hM2, hM3, -⟩ := modU a2 (num : Int) (by omega) (by omega)
      obtain ⟨bl, hbl⟩ : ∃ bl, M + 1 = bl := ⟨_, rfl⟩
      obtain ⟨n1, n2, n3, n4, C, a', n5, n6, n7, n8, n9, n10, n11⟩ := HS.out.last hi40 bl (by omega) (by omega)
      obtain ⟨tl, htl⟩ : ∃ tl, T.length = tl := ⟨_, rfl⟩
      obtain ⟨cl, hcl⟩ : ∃ cl, C.length = cl := ⟨_, rfl⟩
      obtain ⟨tu, htu⟩ : ∃ tu, tl + 1 = tu := ⟨_, rfl⟩
      obtain ⟨q, hq⟩ : ∃ q, tl - cl = q := ⟨_, rfl⟩
      have htl40 : tl ≤ 100 := by omega
      have hct : cl ≤ tl := by omega
      have hbl9 : bl ≤ 900 := by omega
      have htu9 : tu ≤ 100 := by omega
      have hnu9 : num ≤ 100 := by omega
      have hqt : q ≤ tl := by omega
      have hcq : tl - q = cl := by omega
      have hnz : ¬ ((num : Int) = 0) := by omega
      have htn : ¬ ((tu : Int) < (num : Int)) := by omega
      have hle : (cl : Int) ≤ (tl : Int) := by omega
      have hb1M : bl - 1 = M := by omega
      have HT62 := Lib.hid (show tl < 4611686018427387904 by omega)
      have HC62 := Lib.hid (show cl < 4611686018427387904 by omega)
      have HT30 := Lib.hid (show T.length ≤ 1000000000 by omega)
      have HC30 := Lib.hid (show C.length ≤ 1000000000 by omega)
      have dgt2 : decide (tu < num) = false := decide_eq_false (by omega)
      have dgt3 : decide (num ≤ tu) = true := decide_eq_true (by omega)
      have dle2 : decide (cl ≤ tl) = true := decide_eq_true hct
      have dgt : decide ((tu : Int) < (num : Int)) = false := decide_eq_false htn
      have dle : decide ((cl : Int) ≤ (tl : Int)) = true := decide_eq_true hle
      have hsum := sum_lim hbl hbl9
      have hsubb := sub_back hbl hbl9
      have hup := len_up htu htu9
      have hdn := len_dn hq hct htl40
      have hun := u_nat hnu9
      have HTL := Lib.hid htl
      have HCL := Lib.hid hcl
      rw [hb1M] at n6
      have HN1 := Lib.hid n1
      have HN5 := Lib.hid n5
      have HN6 := Lib.hid n6
      have HN78 := Lib.hid (And.intro n7 n8)
      have HN10 := Lib.hid (show T.drop q = C by rw [← hq, ← htl, ← hcl]; exact n10)
      have HN11 := Lib.hid n11
      have HA := Lib.hid (kf_replay0 HKr.out.one.kf (lt_big (Nat.lt_trans HTO.out.1 (by decide))) 1 n3 n1 HT30.out htl)
      have HBR := Lib.hid fun (w : World) (h : Below wr.heap.size wr w) => kf_replay0 (HKr.out.below h).swap.one.kf (lt_big (Nat.lt_trans HTO.out.2 (by decide))) 0 n4 n2 HT30.out htl
      obtain ⟨adt, capt, et, srt, hct2, hot, -⟩ := (HKr.out.one.kf.row (u := u13) (us := tmap T) (by simp)).strs
      rw [List.length_map, htl] at et hct2
      subst et
      have HST := Lib.hid srt
      have hpl := fun wx : World => run_strs_from (w := wx) (a := adt) tl capt q hqt hct2
      rw [hcq] at hpl
      have HCAP := Lib.hid hct2
      clear n1 n2 n3 n4 n5 n6 n7 n8 n9 n10 n11 htl hcl hcnt HS hM1 hbl hq htu hb1M srt hot hct2 hcq htn hle hbl9 htu9 hnu9 hct htl40
      go_wp2_with fail
      refine HA.out.mono ?_
      rintro e Wa ⟨ad1, cp1, rfl, hst1, hnew1, hba⟩
      have HST1 := Lib.hid hst1
      have HBa := Lib.hid hba
      have HB2 := Lib.hid (HBR.out Wa hba)
      clear hst1 hba hnew1 HA HBR
      go_wp2_with fail
      refine HB2.out.mono ?_
      rintro e Wb ⟨ad2, cp2, rfl, hst2, hnew2, hbb⟩
      have HBb := Lib.hid (HBa.out.trans (hbb.mono HBa.out.size))
      have HKb := Lib.hid (HKr.out.below HBb.out)
      have HSb := Lib.hid ((Stay.of_below (G := fun _ => True) hbb).strs HST1.out (fun _ _ _ => trivial))
      have HSt := Lib.hid ((Stay.of_below (G := fun _ => True) HBb.out).strs HST.out (fun _ _ _ => trivial))
      have HX1 := Lib.hid (texts_any HSb.out HSt.out (ln := tl) (mn := tl) (by rw [List.length_map]; exact HTL.out) (by rw [List.length_map]; exact HTL.out) cp1 capt HT62.out)
      have HX2 := Lib.hid fun k : Nat => texts_any (w := Wb.drewN k) ((Stay.drewN (fun _ => True) Wb k).strs hst2 (fun _ _ _ => trivial)) ((Stay.drewN (fun _ => True) Wb k).strs HSt.out (fun _ _ _ => trivial)) (ln := tl) (mn := tl) (by rw [List.length_map]; exact HTL.out) (by rw [List.length_map]; exact HTL.out) cp2 capt HT62.out
      rw [decide_eq_true rfl] at HX1 HX2
      clear hst2 hnew2 hbb HB2 HST1 HBa
      go_wp2_with fail
      refine HX1.out.mono ?_
      rintro e Wt ⟨rfl, kt, rfl⟩
      clear HX1
      go_wp2_with fail
      refine (HX2.out kt).mono ?_
      rintro e Wu ⟨rfl, ku, hWu⟩
      have HBu : Hid (Below wr.heap.size wr Wu) := Lib.hid (by rw [hWu]; exact HBb.out.trans (((below_drewN _ _ kt).trans (below_drewN _ _ ku)).mono HBb.out.size))
      have HKu := Lib.hid (HKr.out.below HBu.out)
      have HNU := Lib.hid (kw_number HKu.out.one)
      have HNV := Lib.hid (kw_number HKu.out.swap.one)
      have HRC := Lib.hid (kf_replay0 HKu.out.one.kf (lt_big (Nat.lt_trans HTO.out.1 (by decide))) (bl : Int) HN5.out HN1.out HC30.out HCL.out)
      clear HX2 hWu HKb HSb HSt HBb
      go_wp2_with fail
      refine HNU.out.mono ?_
      rintro e Wv ⟨rfl, rfl⟩
      go_wp2_with fail
      refine HNV.out.mono ?_
      rintro e Wv ⟨rfl, rfl⟩
      go_wp2_with fail
      refine HNU.out.mono ?_
      rintro e Wv ⟨rfl, rfl⟩
      clear HNU HNV
      go_wp2_with fail
      refine HRC.out.mono ?_
      rintro e Wc ⟨ad3, cp3, rfl, hst3, hnew3, hbc⟩
      have HBc := Lib.hid (HBu.out.trans (hbc.mono HBu.out.size))
      have HKc := Lib.hid (HKu.out.own (G' := fun k => Wu.heap.size ≤ k ∧ k < Wc.heap.size) hbc (fun k hk => .inr hk))
      have HS3 := Lib.hid hst3
      have HG3 := Lib.hid hnew3
      have HDR := Lib.hid (kf_drop HKc.out.one.kf (lt_two HTO.out.1) (bl : Int) HN6.out)
      have HBw := Lib.hid (HBr.out.trans (HBc.out.mono HBr.out.size))
      clear hst3 hnew3 hbc HRC HKr HKu HBu HBc
      go_wp2_with fail
      refine HDR.out.mono ?_
      rintro e Wd ⟨rfl, hF, hb, hs⟩
      have HBd := Lib.hid (HBw.out.trans hb)
      have HS4 := Lib.hid (hs.strs HS3.out HG3.out)
      have HRD := Lib.hid (kf_replay0 hF (lt_big HN11.out) 0 HN78.out.2 HN78.out.1 HC30.out HCL.out)
      have hrw := hF.row (u := .slice adt tl capt) (us := tmap T) (by simp)
      obtain ⟨ad6, cp6, e6, s6, -, -, -⟩ := hrw.strs
      rw [List.length_map, HTL.out] at e6
      simp only [Value.slice.injEq] at e6
      obtain ⟨rfl, -, rfl⟩ := e6
      have HS6 := Lib.hid s6
      clear hF hb hs HDR HKc HBw HS3 HG3 hrw s6
      go_wp2_with fail
      refine HRD.out.mono ?_
      rintro e We ⟨ad5, cp5, rfl, hst5, hnew5, hbe⟩
      have HBe := Lib.hid (HBd.out.trans (hbe.mono HBd.out.size))
      have HS7 := Lib.hid ((Stay.of_below (G := fun _ => True) hbe).strs HS4.out (fun _ _ _ => trivial))
      have HS8 := Lib.hid ((Stay.of_below (G := fun _ => True) hbe).strs HS6.out (fun _ _ _ => trivial))
      have HS9 : Hid (StrsAt We (part adt capt q) (tmap C)) := Lib.hid (by
        have h := strs_from (cap := capt) (q := q) HS8.out (by rw [List.length_map, HTL.out]; exact HCAP.out)
        rw [← List.map_drop, HN10.out] at h; exact h)
      have HX3 := Lib.hid (texts_any HS7.out hst5 (ln := cl) (mn := cl) (by rw [List.length_map]; exact HCL.out) (by rw [List.length_map]; exact HCL.out) cp3 cp5 HC62.out)
      have HX4 := Lib.hid fun k : Nat => texts_any (w := We.drewN k) ((Stay.drewN (fun _ => True) We k).strs HS7.out (fun _ _ _ => trivial)) ((Stay.drewN (fun _ => True) We k).strs HS9.out (fun _ _ _ => trivial)) (ln := cl) (mn := cl) (by rw [List.length_map]; exact HCL.out) (by rw [List.length_map]; exact HCL.out) cp3 (capt - q) HC62.out
      rw [decide_eq_true rfl] at HX3 HX4
      clear hst5 hnew5 hbe HRD HS4 HS6 HS7 HS8 HS9 HBd
      go_wp2_with fail
      refine HX3.out.mono ?_
      rintro e Wf ⟨rfl, kf, rfl⟩
      clear HX3
      go_wp2_with fail
      refine (HX4.out kf).mono ?_
      rintro e Wg ⟨rfl, kg, rfl⟩
      clear HX4
      go_wp2
      go_ret
      exact ⟨rfl, HBe.out.trans ((below_drewN _ _ (kf + kg)).mono HBe.out.size)⟩
end walSplits
end Go.Proofs.YtadnecgcoceklaaGreatDoor
