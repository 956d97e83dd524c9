/-
  The law WalKeeps, walked.
-/
import Derived.Test.YtadnecgcoceklaaGreatDoorWalKW
namespace Go.Proofs.YtadnecgcoceklaaGreatDoor
open Go.RowKit Go.Maps
namespace walKeeps

abbrev tmap (l : List Rec) : List ByteArray := l.map strOf
theorem tmap_snoc (l : List Rec) (t : ByteArray) : tmap (l ++ [natsOf t]) = tmap l ++ [t] := by simp [strOf_natsOf]
theorem tmap_app (l m : List Rec) : tmap (l ++ m) = tmap l ++ tmap m := by simp
theorem wrap_nat {n : Nat} (h : n < 4611686018427387904) : wrap64 (n : Int) = (n : Int) := by unfold wrap64; omega
theorem wrap_dn {n q : Nat} (h1 : 1 ≤ n) (h : n < 4611686018427387904) (hq : n - 1 = q) : wrap64 ((n : Int) - 1) = (q : Int) := by unfold wrap64; omega
theorem wrap_up {n q : Nat} (h : n < 4611686018427387904) (hq : n + 1 = q) : wrap64 ((n : Int) + 1) = (q : Int) := by unfold wrap64; omega
theorem i64_nat {n : Nat} (h : n < 4611686018427387904) : -9223372036854775808 ≤ (n : Int) ∧ (n : Int) ≤ 9223372036854775807 := by omega
theorem up_lt {n : Nat} (h : n < 300) : n + 1 < 1073741824 := by omega
theorem cast_up {n q : Nat} (hq : n + 1 = q) : (q : Int) = (n : Int) + 1 := by omega
theorem lt_up {n q : Nat} (hq : n + 1 = q) (h : n < 300) : q < 4611686018427387904 := by omega
theorem strs_take {w : World} {ad : Option Addr} {l : List ByteArray} {q : Nat} (h : StrsAt w ad l) : StrsAt w ad (l.take q) := by
  rcases h with h | ⟨b, off, e, hl, hc⟩
  · exact .inl (by rw [h]; exact List.take_nil)
  · exact .inr ⟨b, off, e, hl, fun i hi => by rw [List.length_take] at hi; rw [hc i (by omega), List.getElem_take]⟩
abbrev tcells (call n lm : Int) (sync : Bool) (txt : ByteArray) (pad : Option Addr) (plen pcap : Nat) : Obj := .cells #[.int .i64 call, .int .i64 n, .int .i64 lm, .bool sync, .string txt, .slice pad plen pcap] 46
def TAt (w : World) (tb : Nat) (call n lm : Int) (sync : Bool) (txt : ByteArray) (pad : Option Addr) (plen pcap : Nat) : Prop := w.heap[tb]? = some (tcells call n lm sync txt pad plen pcap)
section
variable {w w' : World} {tb : Nat} {call n lm : Int} {sync : Bool} {txt : ByteArray} {pad : Option Addr} {plen pcap : Nat}
theorem TAt.stay (h : TAt w tb call n lm sync txt pad plen pcap) (hS : Stay (fun k => k = tb) w w') : TAt w' tb call n lm sync txt pad plen pcap :=
  (hS.block tb (Array.getElem?_eq_some_iff.1 h).1 rfl).trans h
theorem TAt.lt (h : TAt w tb call n lm sync txt pad plen pcap) : tb < w.heap.size := (Array.getElem?_eq_some_iff.1 h).1
theorem TAt.c3 (h : TAt w tb call n lm sync txt pad plen pcap) : w.cell? ⟨tb, 3, none⟩ = some (.bool sync) := by rw [cell_of_row w tb 3 _ _ _ h]; rfl
theorem TAt.c5 (h : TAt w tb call n lm sync txt pad plen pcap) : w.cell? ⟨tb, 5, none⟩ = some (.slice pad plen pcap) := by rw [cell_of_row w tb 5 _ _ _ h]; rfl
end
set_option maxRecDepth 100000 in
set_option maxHeartbeats 8000000 in
theorem walk (a0 : Option Addr) (len0 cap0 : Nat) (a1 : Int) (W : World) (w0 : IsTurns W a0 len0 cap0) (_ : (Lit.int .i64 a1).wf = true) (hv : Vars W) :
    Calls Tryz.prog 4 #[.slice a0 len0 cap0, .int .i64 a1] W fun e w' => e = .returned (.bool true) ∧ Below W.heap.size W w' := by
  obtain ⟨R, hR1, hR2, hR3, -⟩ := modU a1 600 (by omega) (by omega)
  obtain ⟨lim, hlim⟩ : ∃ lim, R + 1 = lim := ⟨_, rfl⟩
  have hl1 : 1 ≤ lim := by omega
  have hl2 : lim ≤ 600 := by omega
  have hw1 : wrap64 (1 + (R : Int)) = (lim : Int) := by unfold wrap64; omega
  have HW0 := Lib.hid w0
  have HL := Lib.hid (logged_any W hv)
  have HV := Lib.hid hv
  obtain ⟨A0, hz0, hk0⟩ := KS.start lim hl1 hl2
  have HZ0 := Lib.hid hz0
  have HK0 := Lib.hid hk0
  clear w0 hv hR1 hlim hz0 hk0
  go_enter Tryz.func4, Tryz.ntmps4
  go_wp2_with fail
  refine HL.out.mono ?_
  rintro e W1 ⟨rfl, b1⟩
  have HB1 := Lib.hid b1
  have HN := Lib.hid (kf_made (B := W.heap.size) (w := W1) b1.size ((VB.start HV.out).below b1) 4194304 (by omega))
  clear b1 HL
  go_wp2_with fail
  refine HN.out.mono ?_
  rintro e W2 ⟨rfl, hF, hb⟩
  have HB2 := Lib.hid (HB1.out.trans (hb.mono HB1.out.size))
  have HNW := Lib.hid (kf_new hF 1 (lim : Int) ⟨by omega, by omega⟩ (by show (0 : Nat) + 1 < _; omega) HZ0.out (n' := 1) (l' := lim) rfl (by omega))
  have hpb : ∃ pb, W1.heap.size = pb := ⟨_, rfl⟩
  obtain ⟨pb, hpb⟩ := hpb
  rw [hpb] at HNW ⊢
  clear hF hb HN HB1 hpb
  go_wp2_with fail
  refine HNW.out.mono ?_
  rintro e W3 ⟨lb0, rfl, hk, hb, _⟩
  have HB3 := Lib.hid (HB2.out.trans hb)
  have HK3 := Lib.hid hk.none.none
  clear hk hb HNW HB2 HZ0
  go_wp2_with fail
  go_loopw [7, 8, 9, 10] (fun u7 u8 u9 u10 wr => ∃ (i lb num : Nat) (a : A) (S V : List Rec), u7 = bp lb ∧ u10 = .int .i64 i ∧ i ≤ 60 ∧ i ≤ len0 ∧ KW (fun _ => False) W.heap.size wr lb pb num lim a [(u8, tmap S), (u9, tmap V)] ∧ KS a i num S V ∧ Below W.heap.size W wr) (fun _ _ _ u10 _ => 60 - (intOf u10).toNat)
  case atStart => exact ⟨0, lb0, 1, A0, [], [], rfl, rfl, by omega, by omega, HK3.out, HK0.out, HB3.out⟩
  case round =>
    obtain ⟨i, lb, num, a, S, V, rfl, rfl, hi60, hil, hK, hKS, hB⟩ := hrel
    have HKr := Lib.hid hK
    have HS := Lib.hid hKS
    have HBr := Lib.hid hB
    have ltl := hK.lt
    obtain ⟨htop, hn1, hn2⟩ := hKS.top hi60
    have HTO := Lib.hid htop
    have hcnt := hKS.cnt
    rw [List.length_append] at hcnt
    clear hK hKS hB htop HK3 HK0 HB3
    by_cases hin1 : i < len0
    · by_cases hin2 : i < 60
      · obtain ⟨b, off, rfl, hbw, d, hD⟩ := HW0.out.2.2 i hin1
        obtain ⟨call, n, lm, sync, txt, pad, plen, pcap, pz⟩ := d
        have hD' := hD.keep HBr.out hbw
        obtain ⟨c0, c1, c2, c3, c4, c5, f0, f1, f2, n4, hr⟩ := hD'
        dsimp only at c0 c1 c2 c3 c4 c5 f0 f1 f2 n4 hr
        have hbl : b < wr.heap.size := World.block_lt_of_cell? wr _ c0
        have HPI := Lib.hid hD.r
        dsimp only at HPI
        have HAV := Lib.hid (wf_i64 f1)
        have HSH := Lib.hid (fun w => short_any txt (by unfold maxLen at n4; omega) w)
        have HT0 : Hid (TAt (wr.alloc (tcells call n lm sync txt pad plen pcap)) wr.heap.size call n lm sync txt pad plen pcap) := Lib.hid (heap_alloc_new wr _)
        have HKt : Hid (KW (fun k => k = wr.heap.size) W.heap.size (wr.alloc (tcells call n lm sync txt pad plen pcap)) lb pb num lim a [(u8, tmap S), (u9, tmap V)]) := Lib.hid (HKr.out.own (bel1 wr _) fun k hk => .inr (by subst hk; simp))
        have HBt : Hid (Below W.heap.size W (wr.alloc (tcells call n lm sync txt pad plen pcap))) := Lib.hid (HBr.out.trans ((Below.refl _ _).alloc HBr.out.size _))
        clear hr f0 f1 f2 hD n4 HKr
        by_cases q6 : call = 6
        · as_aux_lemma =>
            subst q6
            have HC := Lib.hid (kw_arm HKt.out n HAV.out)
            have HSa := Lib.hid (HS.out.arm n).next
            go_wp2_with fail
            refine HC.out.mono ?_
            rintro e W7 ⟨rfl, hk, hb, _⟩
            have HKe := Lib.hid hk.free
            have HBe := Lib.hid (HBt.out.trans hb)
            clear hk hb HC
            go_wp2
            go_roundw
            case rel => exact ⟨i + 1, lb, num, _, S, V, rfl, by go_num, by omega, by omega, HKe.out, HSa.out, HBe.out⟩
            case measure => simp [intOf]; omega
        have p6 : (call == 6) = false := by simp; exact q6
        by_cases q2 : call = 2
        · as_aux_lemma =>
            subst q2
            obtain ⟨z, a', hz, hcase⟩ := HS.out.sync
            have HC := Lib.hid (kw_sync HKt.out hn1 (by omega) hz)
            rcases hcase with ⟨rfl, hK2⟩ | ⟨rfl, hK2⟩
            · have HS2 := Lib.hid hK2
              clear hz hK2
              go_wp2_with fail
              refine HC.out.mono ?_
              rintro e W7 ⟨rfl, hk, hb, hs⟩
              obtain ⟨v', w8, hrun, hk2, hb2, _⟩ := hk.rowR (by rw [List.length_map, List.length_map]; omega)
              have HKe := Lib.hid hk2.free
              have HBe := Lib.hid ((HBt.out.trans hb).trans hb2)
              clear hk hb hs hk2 hb2 HC
              go_wp2_with (at_builtin; refine wpList_app_run rfl rfl hrun rfl rfl ?_)
              go_roundw
              case rel => exact ⟨i + 1, lb, num, a', S ++ V, [], rfl, by go_num, by omega, by omega, by rw [tmap_app]; exact HKe.out, HS2.out, HBe.out⟩
              case measure => simp [intOf]; omega
            · have HCS := Lib.hid (hK2.crash hin2)
              have HTp := Lib.hid (hK2.crash hin2).top
              clear hz hK2
              go_wp2_with fail
              refine HC.out.mono ?_
              rintro e Wd ⟨rfl, hk, hb, hs⟩
              have HKd := Lib.hid hk
              have HBd := Lib.hid (HBt.out.trans hb)
              have HTd := Lib.hid (HT0.out.stay hs)
              clear hk hb hs HC HKt HBt HT0 HS
              have hSV : (S ++ V).length ≤ 61 := by have := HCS.out.cnt; omega
              obtain ⟨tb, htb⟩ : ∃ tb, wr.heap.size = tb := ⟨_, rfl⟩
              rw [htb] at HTd HKd ⊢
              clear htb
              have tlt := HTd.out.lt
              have tc5 := HTd.out.c5
              have hpi := HPI.out.1.keep HBd.out
              obtain ⟨adP, capP, wP, hcp, hbP, hpP, hlP⟩ := copy_picks hpi HPI.out.2
              have HC := Lib.hid (kf_crash (cap := capP) HKd.out.kf (by have := HTp.out; omega) hbP hpP hlP)
              obtain ⟨x1, x2, N, x3, x4, x5, j, x6, x7, x8, A2, x9, x10⟩ := HCS.out.crash (by omega) (pz.take plen) lim hl1 hl2
              have hj62 : j < 4611686018427387904 := by omega
              have HX1 := Lib.hid x1
              have HX2 := Lib.hid x2
              have HX5 := Lib.hid x5
              have HX8 := Lib.hid x8
              have HX9 := Lib.hid x9
              have HX10 := Lib.hid x10
              obtain ⟨a2, ha2⟩ : ∃ a2, a'.crash (pz.take plen) = a2 := ⟨_, rfl⟩
              rw [ha2] at HC HX1 HX2 HX5 HX8 HX9
              clear hbP hpP hlP hpi x1 x2 x5 x8 x9 x10 ha2 HCS HTp
              go_wp2_with (at_builtin; refine wpList_app_run rfl rfl hcp rfl rfl ?_)
              refine HC.out.mono ?_
              rintro e Wc ⟨rfl, hF, hb, hs⟩
              have HBc := Lib.hid (HBd.out.trans hb)
              have HRP := Lib.hid (kf_replay hF (by have := HX2.out; omega) 0 HX8.out HX1.out (by rw [List.length_take]; omega) (n := j) (by rw [List.length_take]; omega))
              clear hF hb hs HC hcp HTd HKd HBd tc5 tlt
              go_wp2_with fail
              refine HRP.out.mono ?_
              rintro e Wr ⟨adG, capG, rfl, hF, hb⟩
              have HBg := Lib.hid (HBc.out.trans (hb.mono HBc.out.size))
              have HFg := Lib.hid hF
              clear hF hb HRP HBc
              have hrg := HFg.out.row (u := .slice adG j capG) (us := tmap ((S ++ V).take j)) (by simp)
              have hrs := HFg.out.row (u := u8) (us := tmap S) (by simp)
              have hru := HFg.out.row (u := u9) (us := tmap V) (by simp)
              obtain ⟨adG', capG', eg, sg, -, -, -⟩ := hrg.strs
              obtain ⟨adS, capS, esd, -, -, -, -⟩ := hrs.strs
              have hlS : (tmap S).length = S.length := List.length_map ..
              have hlT : ((S ++ V).take j).length = j := by rw [List.length_take]; omega
              rw [List.length_map, hlT] at eg
              simp only [Value.slice.injEq] at eg
              obtain ⟨rfl, _, rfl⟩ := eg
              obtain ⟨vq, wq, adA, capA, wA, happ1, happ2, hsA, hcA, hbA⟩ := all_rows hrs hru (by rw [List.length_map, List.length_map]; rw [List.length_append] at hSV; omega)
              have hlA : (tmap S ++ tmap V).length = S.length + V.length := by rw [List.length_append, List.length_map, List.length_map]
              rw [hlA] at happ2 hcA
              rw [hlS] at esd
              subst esd
              obtain ⟨sl, hsl⟩ : ∃ sl, S.length = sl := ⟨_, rfl⟩
              obtain ⟨al, hal⟩ : ∃ al, S.length + V.length = al := ⟨_, rfl⟩
              rw [hal] at happ2 hcA
              rw [hsl] at happ1 x6
              rw [List.length_append, hal] at x7
              have HSG := Lib.hid ((Stay.of_below (G := fun _ => True) hbA).strs sg (fun _ _ _ => trivial))
              have HFa := Lib.hid (HFg.out.below hbA)
              have HBa := Lib.hid (HBg.out.trans (hbA.mono HBg.out.size))
              have HTA : Hid (tmap ((S ++ V).take j) = (tmap S ++ tmap V).take j) := Lib.hid (by rw [← tmap_app]; exact List.map_take ..)
              have HSA := Lib.hid (strs_part0 (cap := capA) (strs_take hsA (q := j)))
              have hjA : ((tmap S ++ tmap V).take j).length = j := by rw [List.length_take, hlA]; omega
              have d1 : decide ((j : Int) < (sl : Int)) = false := by simp; omega
              have d2 : decide ((al : Int) < (j : Int)) = false := by simp; omega
              have hpt := fun wx : World => run_part_strs (w := wx) (a := adA) al capA j (by omega)
              clear hrs hru hrg sg hsA hbA hlA hlT hlS HFg HBg
              go_wp2_with (at_builtin; first | refine wpList_app_run rfl rfl happ1 rfl rfl ?_ | refine wpList_app_run rfl rfl happ2 rfl rfl ?_)
              have HTX := Lib.hid (texts_any HSG.out HSA.out (ln := j) (mn := j) (by rw [HTA.out]; exact hjA) hjA capG capA hj62)
              rw [HTA.out, decide_eq_true rfl] at HTX
              have HNU := Lib.hid fun k : Nat => kf_numbers (HFa.out.drewN k) (by have := HX2.out; omega) HX5.out HX1.out (n := N) (by simp)
              clear happ1 happ2 HSG HSA
              go_wp2_with fail
              refine HTX.out.mono ?_
              rintro e Wt ⟨rfl, kt, rfl⟩
              clear HTX
              go_wp2_with fail
              refine (HNU.out kt).mono ?_
              rintro e Wn ⟨adN, capN, rfl, hrow, hF, hb⟩
              have HBn := Lib.hid (HBa.out.trans (((below_drewN _ _ kt).trans hb).mono HBa.out.size))
              have HFn := Lib.hid hF
              obtain ⟨q, hq⟩ : ∃ q, N - 1 = q := ⟨_, rfl⟩
              obtain ⟨np, hnp⟩ : ∃ np, N + 1 = np := ⟨_, rfl⟩
              have HCE : Hid (∃ b, adN = some ⟨b, 0, none⟩ ∧ b < Wn.heap.size ∧ Wn.cell? ⟨b, q, none⟩ = some (.int .i64 (N : Int))) := Lib.hid (by
                obtain ⟨_, _, e1, _, _, _, hx⟩ := slice_of_own hrow (by simp [i64s, natI])
                cases e1
                rw [← hq]
                exact hx (N - 1) _ (by simp [i64s, natI, show N - 1 < N by omega]; omega))
              obtain ⟨bN, rfl, hbN, hcN⟩ := HCE.out
              have d3 : decide ((0 : Int) < (N : Int)) = true := by simp; omega
              have hsub : wrap64 ((N : Int) - 1) = (q : Int) := wrap_dn x3 (Nat.lt_trans x4 (by decide)) hq
              have hadd : wrap64 ((N : Int) + 1) = (np : Int) := wrap_up (Nat.lt_trans x4 (by decide)) hnp
              have hqN : q < N := by clear d1 d2 d3 hsub hadd; omega
              have HNX := Lib.hid (kf_new hF (np : Int) (lim : Int) (i64_nat (lt_up hnp x4)) (up_lt HX2.out) (by rw [cast_up hnp]; exact HX9.out) (n' := np) (l' := lim) (Int.toNat_natCast np) (Int.toNat_natCast lim))
              have HXN : Hid (KS A2 (i + 1) np ((S ++ V).take j) []) := Lib.hid (by rw [← hnp]; exact HX10.out)
              clear hq hnp x3 x4
              clear hrow hF hb HCE HNU HBa HFa
              go_wp2_with fail
              refine HNX.out.mono ?_
              rintro e W8 ⟨lb8, rfl, hk, hb, -⟩
              have HKe := Lib.hid (hk.drop (L' := [(.slice adG j capG, tmap ((S ++ V).take j))]) (List.Sublist.cons_cons _ (List.nil_sublist _))).none.swap.free
              have HBe := Lib.hid (HBn.out.trans hb)
              clear hk hb HNX
              go_wp2
              go_roundw
              case rel => exact ⟨i + 1, lb8, np, A2, (S ++ V).take j, [], rfl, by go_num, hin2, hin1, HKe.out, HXN.out, HBe.out⟩
              case measure => simp [intOf]; omega
        have p2 : (call == 2) = false := by simp; exact q2
        by_cases q7 : call = 7
        · as_aux_lemma =>
            subst q7
            have HCS := Lib.hid (HS.out.crash hin2)
            have HTp := Lib.hid (HS.out.crash hin2).top
            have HTd := HT0
            have HKd := HKt
            have HBd := HBt
            clear HKt HBt HT0 HS
            have hSV : (S ++ V).length ≤ 61 := by have := HCS.out.cnt; omega
            have tlt := HTd.out.lt
            have tc5 := HTd.out.c5
            have hpi := HPI.out.1.keep HBd.out
            obtain ⟨adP, capP, wP, hcp, hbP, hpP, hlP⟩ := copy_picks hpi HPI.out.2
            have hsz : (wr.alloc (tcells 7 n lm sync txt pad plen pcap)).heap.size = wr.heap.size + 1 := by simp
            rw [hsz] at hcp
            clear hsz
            have HC := Lib.hid (kf_crash (cap := capP) HKd.out.kf (by have := HTp.out; omega) hbP hpP hlP)
            obtain ⟨x1, x2, N, x3, x4, x5, j, x6, x7, x8, A2, x9, x10⟩ := HCS.out.crash (by omega) (pz.take plen) lim hl1 hl2
            have hj62 : j < 4611686018427387904 := by omega
            have HX1 := Lib.hid x1
            have HX2 := Lib.hid x2
            have HX5 := Lib.hid x5
            have HX8 := Lib.hid x8
            have HX9 := Lib.hid x9
            have HX10 := Lib.hid x10
            obtain ⟨a2, ha2⟩ : ∃ a2, a.crash (pz.take plen) = a2 := ⟨_, rfl⟩
            rw [ha2] at HC HX1 HX2 HX5 HX8 HX9
            clear hbP hpP hlP hpi x1 x2 x5 x8 x9 x10 ha2 HCS HTp
            go_wp2_with (at_builtin; refine wpList_app_run rfl rfl hcp rfl rfl ?_)
            refine HC.out.mono ?_
            rintro e Wc ⟨rfl, hF, hb, hs⟩
            have HBc := Lib.hid (HBd.out.trans hb)
            have HRP := Lib.hid (kf_replay hF (by have := HX2.out; omega) 0 HX8.out HX1.out (by rw [List.length_take]; omega) (n := j) (by rw [List.length_take]; omega))
            clear hF hb hs HC hcp HTd HKd HBd tc5 tlt
            go_wp2_with fail
            refine HRP.out.mono ?_
            rintro e Wr ⟨adG, capG, rfl, hF, hb⟩
            have HBg := Lib.hid (HBc.out.trans (hb.mono HBc.out.size))
            have HFg := Lib.hid hF
            clear hF hb HRP HBc
            have hrg := HFg.out.row (u := .slice adG j capG) (us := tmap ((S ++ V).take j)) (by simp)
            have hrs := HFg.out.row (u := u8) (us := tmap S) (by simp)
            have hru := HFg.out.row (u := u9) (us := tmap V) (by simp)
            obtain ⟨adG', capG', eg, sg, -, -, -⟩ := hrg.strs
            obtain ⟨adS, capS, esd, -, -, -, -⟩ := hrs.strs
            have hlS : (tmap S).length = S.length := List.length_map ..
            have hlT : ((S ++ V).take j).length = j := by rw [List.length_take]; omega
            rw [List.length_map, hlT] at eg
            simp only [Value.slice.injEq] at eg
            obtain ⟨rfl, _, rfl⟩ := eg
            obtain ⟨vq, wq, adA, capA, wA, happ1, happ2, hsA, hcA, hbA⟩ := all_rows hrs hru (by rw [List.length_map, List.length_map]; rw [List.length_append] at hSV; omega)
            have hlA : (tmap S ++ tmap V).length = S.length + V.length := by rw [List.length_append, List.length_map, List.length_map]
            rw [hlA] at happ2 hcA
            rw [hlS] at esd
            subst esd
            obtain ⟨sl, hsl⟩ : ∃ sl, S.length = sl := ⟨_, rfl⟩
            obtain ⟨al, hal⟩ : ∃ al, S.length + V.length = al := ⟨_, rfl⟩
            rw [hal] at happ2 hcA
            rw [hsl] at happ1 x6
            rw [List.length_append, hal] at x7
            have HSG := Lib.hid ((Stay.of_below (G := fun _ => True) hbA).strs sg (fun _ _ _ => trivial))
            have HFa := Lib.hid (HFg.out.below hbA)
            have HBa := Lib.hid (HBg.out.trans (hbA.mono HBg.out.size))
            have HTA : Hid (tmap ((S ++ V).take j) = (tmap S ++ tmap V).take j) := Lib.hid (by rw [← tmap_app]; exact List.map_take ..)
            have HSA := Lib.hid (strs_part0 (cap := capA) (strs_take hsA (q := j)))
            have hjA : ((tmap S ++ tmap V).take j).length = j := by rw [List.length_take, hlA]; omega
            have d1 : decide ((j : Int) < (sl : Int)) = false := by simp; omega
            have d2 : decide ((al : Int) < (j : Int)) = false := by simp; omega
            have hpt := fun wx : World => run_part_strs (w := wx) (a := adA) al capA j (by omega)
            clear hrs hru hrg sg hsA hbA hlA hlT hlS HFg HBg
            go_wp2_with (at_builtin; first | refine wpList_app_run rfl rfl happ1 rfl rfl ?_ | refine wpList_app_run rfl rfl happ2 rfl rfl ?_)
            have HTX := Lib.hid (texts_any HSG.out HSA.out (ln := j) (mn := j) (by rw [HTA.out]; exact hjA) hjA capG capA hj62)
            rw [HTA.out, decide_eq_true rfl] at HTX
            have HNU := Lib.hid fun k : Nat => kf_numbers (HFa.out.drewN k) (by have := HX2.out; omega) HX5.out HX1.out (n := N) (by simp)
            clear happ1 happ2 HSG HSA
            go_wp2_with fail
            refine HTX.out.mono ?_
            rintro e Wt ⟨rfl, kt, rfl⟩
            clear HTX
            go_wp2_with fail
            refine (HNU.out kt).mono ?_
            rintro e Wn ⟨adN, capN, rfl, hrow, hF, hb⟩
            have HBn := Lib.hid (HBa.out.trans (((below_drewN _ _ kt).trans hb).mono HBa.out.size))
            have HFn := Lib.hid hF
            obtain ⟨q, hq⟩ : ∃ q, N - 1 = q := ⟨_, rfl⟩
            obtain ⟨np, hnp⟩ : ∃ np, N + 1 = np := ⟨_, rfl⟩
            have HCE : Hid (∃ b, adN = some ⟨b, 0, none⟩ ∧ b < Wn.heap.size ∧ Wn.cell? ⟨b, q, none⟩ = some (.int .i64 (N : Int))) := Lib.hid (by
              obtain ⟨_, _, e1, _, _, _, hx⟩ := slice_of_own hrow (by simp [i64s, natI])
              cases e1
              rw [← hq]
              exact hx (N - 1) _ (by simp [i64s, natI, show N - 1 < N by omega]; omega))
            obtain ⟨bN, rfl, hbN, hcN⟩ := HCE.out
            have d3 : decide ((0 : Int) < (N : Int)) = true := by simp; omega
            have hsub : wrap64 ((N : Int) - 1) = (q : Int) := wrap_dn x3 (Nat.lt_trans x4 (by decide)) hq
            have hadd : wrap64 ((N : Int) + 1) = (np : Int) := wrap_up (Nat.lt_trans x4 (by decide)) hnp
            have hqN : q < N := by clear d1 d2 d3 hsub hadd; omega
            have HNX := Lib.hid (kf_new hF (np : Int) (lim : Int) (i64_nat (lt_up hnp x4)) (up_lt HX2.out) (by rw [cast_up hnp]; exact HX9.out) (n' := np) (l' := lim) (Int.toNat_natCast np) (Int.toNat_natCast lim))
            have HXN : Hid (KS A2 (i + 1) np ((S ++ V).take j) []) := Lib.hid (by rw [← hnp]; exact HX10.out)
            clear hq hnp x3 x4
            clear hrow hF hb HCE HNU HBa HFa
            go_wp2_with fail
            refine HNX.out.mono ?_
            rintro e W8 ⟨lb8, rfl, hk, hb, -⟩
            have HKe := Lib.hid (hk.drop (L' := [(.slice adG j capG, tmap ((S ++ V).take j))]) (List.Sublist.cons_cons _ (List.nil_sublist _))).none.swap.free
            have HBe := Lib.hid (HBn.out.trans hb)
            clear hk hb HNX
            go_wp2
            go_roundw
            case rel => exact ⟨i + 1, lb8, np, A2, (S ++ V).take j, [], rfl, by go_num, hin2, hin1, HKe.out, HXN.out, HBe.out⟩
            case measure => simp [intOf]; omega
        have p7 : (call == 7) = false := by simp; exact q7
        as_aux_lemma =>
          obtain ⟨t, ht⟩ : ∃ t, shortT txt = t := ⟨_, rfl⟩
          have hts : t.size ≤ 900 := by rw [← ht]; exact shortT_size txt
          have hts2 : (natsOf t).length ≤ 900 := by rw [natsOf_length]; exact hts
          obtain ⟨z, a', num', hz, hcase⟩ := HS.out.app hin2 (natsOf_byte t) hts2 lim sync
          have HSH1 := Lib.hid (HSH.out (wr.alloc (tcells call n lm sync txt pad plen pcap)))
          rw [ht] at HSH1
          clear HSH ht hts2
          go_wp2_with fail
          refine HSH1.out.mono ?_
          rintro e W5 ⟨rfl, hk5⟩
          have HK5 : Hid (KW (fun k => k = wr.heap.size) W.heap.size W5 lb pb num lim a [(u8, tmap S), (u9, tmap V)]) := Lib.hid (by obtain ⟨k, rfl⟩ := hk5; exact HKt.out.drewN k)
          have HB5 : Hid (Below W.heap.size W W5) := Lib.hid (by obtain ⟨k, rfl⟩ := hk5; exact HBt.out.trans ((below_drewN _ _ k).mono HBt.out.size))
          have HT5 : Hid (TAt W5 wr.heap.size call n lm sync txt pad plen pcap) := Lib.hid (by obtain ⟨k, rfl⟩ := hk5; exact HT0.out.stay (Stay.drewN _ _ k))
          obtain ⟨tb, htb⟩ : ∃ tb, wr.heap.size = tb := ⟨_, rfl⟩
          rw [htb] at HT5 HK5 ⊢
          clear htb hk5 HKt HBt HT0 HSH1
          obtain ⟨capC, w2, hcv, hbC, hapC⟩ := kw_app HK5.out hn1 (by omega) (by have := HTO.out; omega) t (by omega) sync hz
          have HAP := Lib.hid hapC
          have tlt5 := HT5.out.lt
          have HT2 : Hid (TAt w2 tb call n lm sync txt pad plen pcap) := Lib.hid (HT5.out.stay (Stay.of_below hbC))
          have tlt2 := HT2.out.lt
          have tc2 := HT2.out.c3
          clear hapC hbC
          go_wp2_with fail
          refine HAP.out.mono ?_
          rintro e W7 ⟨rfl, hk, hb, hs⟩
          have HT7 := Lib.hid (HT5.out.stay hs)
          have HK7 := Lib.hid hk
          have HB7 := Lib.hid (HB5.out.trans hb)
          clear hk hb hs HAP HT5 HK5 HB5 HT2 tc2 tlt2 hcv
          have tlt7 := HT7.out.lt
          obtain ⟨v', w8, hrun, hk2, hb2, hs2⟩ := HK7.out.swap.row1 t (by rw [List.length_map]; omega)
          rw [← tmap_snoc] at hk2
          have HK8 := Lib.hid hk2.swap
          have HB8 := Lib.hid (HB7.out.trans hb2)
          have HT8 := Lib.hid (HT7.out.stay hs2)
          have tlt8 := HT8.out.lt
          have tc8 := HT8.out.c3
          clear hk2 hb2 hs2 HK7 HB7 HT7 tlt7 tlt5
          rcases hcase with ⟨rfl, hS1, hS2⟩ | ⟨rfl, hCS⟩
          · by_cases hsy : sync = true
            · subst hsy
              have HSS := Lib.hid (hS2 rfl)
              clear hS1 hS2
              obtain ⟨v9, w9, hrun9, hk9, hb9, hs9⟩ := HK8.out.rowR (by rw [List.length_map, List.length_map, List.length_append]; simp only [List.length_singleton]; omega)
              rw [← tmap_app] at hk9
              have HKe := Lib.hid hk9.free
              have HBe := Lib.hid (HB8.out.trans hb9)
              clear hk9 hb9 hs9 HK8 HB8 HT8
              go_wp2_with (at_builtin; first | refine wpList_app_run rfl rfl hrun rfl rfl ?_ | refine wpList_app_run rfl rfl hrun9 rfl rfl ?_)
              go_roundw
              case rel => exact ⟨i + 1, lb, num', a', _, [], rfl, by go_num, by omega, by omega, HKe.out, HSS.out, HBe.out⟩
              case measure => simp [intOf]; omega
            · have hsf : sync = false := by simpa using hsy
              subst hsf
              have HSS := Lib.hid hS1
              clear hS1 hS2
              have HKe := Lib.hid HK8.out.free
              go_wp2_with (at_builtin; refine wpList_app_run rfl rfl hrun rfl rfl ?_)
              go_roundw
              case rel => exact ⟨i + 1, lb, num', a', _, _, rfl, by go_num, by omega, by omega, HKe.out, HSS.out, HB8.out⟩
              case measure => simp [intOf]; omega
          · have HCS := Lib.hid hCS
            have HTp := Lib.hid hCS.top
            have HTd := HT8
            have HKd := HK8
            have HBd := HB8
            clear hCS HK8 HB8 HT8
            have hSV : (S ++ (V ++ [natsOf t])).length ≤ 61 := by have := HCS.out.cnt; omega
            have tlt := HTd.out.lt
            have tc5 := HTd.out.c5
            have hpi := HPI.out.1.keep HBd.out
            obtain ⟨adP, capP, wP, hcp, hbP, hpP, hlP⟩ := copy_picks hpi HPI.out.2
            have HC := Lib.hid (kf_crash (cap := capP) HKd.out.kf (by have := HTp.out; omega) hbP hpP hlP)
            obtain ⟨x1, x2, N, x3, x4, x5, j, x6, x7, x8, A2, x9, x10⟩ := HCS.out.crash (by omega) (pz.take plen) lim hl1 hl2
            have hj62 : j < 4611686018427387904 := by omega
            have HX1 := Lib.hid x1
            have HX2 := Lib.hid x2
            have HX5 := Lib.hid x5
            have HX8 := Lib.hid x8
            have HX9 := Lib.hid x9
            have HX10 := Lib.hid x10
            obtain ⟨a2, ha2⟩ : ∃ a2, a'.crash (pz.take plen) = a2 := ⟨_, rfl⟩
            rw [ha2] at HC HX1 HX2 HX5 HX8 HX9
            clear hbP hpP hlP hpi x1 x2 x5 x8 x9 x10 ha2 HCS HTp
            go_wp2_with (at_builtin; first | refine wpList_app_run rfl rfl hrun rfl rfl ?_ | refine wpList_app_run rfl rfl hcp rfl rfl ?_)
            refine HC.out.mono ?_
            rintro e Wc ⟨rfl, hF, hb, hs⟩
            have HBc := Lib.hid (HBd.out.trans hb)
            have HRP := Lib.hid (kf_replay hF (by have := HX2.out; omega) 0 HX8.out HX1.out (by rw [List.length_take]; omega) (n := j) (by rw [List.length_take]; omega))
            clear hF hb hs HC hcp HTd HKd HBd tc5 tlt
            go_wp2_with fail
            refine HRP.out.mono ?_
            rintro e Wr ⟨adG, capG, rfl, hF, hb⟩
            have HBg := Lib.hid (HBc.out.trans (hb.mono HBc.out.size))
            have HFg := Lib.hid hF
            clear hF hb HRP HBc
            have hrg := HFg.out.row (u := .slice adG j capG) (us := tmap ((S ++ (V ++ [natsOf t])).take j)) (by simp)
            have hrs := HFg.out.row (u := u8) (us := tmap S) (by simp)
            have hru := HFg.out.row (u := v') (us := tmap (V ++ [natsOf t])) (by simp)
            obtain ⟨adG', capG', eg, sg, -, -, -⟩ := hrg.strs
            obtain ⟨adS, capS, esd, -, -, -, -⟩ := hrs.strs
            have hlS : (tmap S).length = S.length := List.length_map ..
            have hlT : ((S ++ (V ++ [natsOf t])).take j).length = j := by rw [List.length_take]; omega
            rw [List.length_map, hlT] at eg
            simp only [Value.slice.injEq] at eg
            obtain ⟨rfl, _, rfl⟩ := eg
            obtain ⟨vq, wq, adA, capA, wA, happ1, happ2, hsA, hcA, hbA⟩ := all_rows hrs hru (by rw [List.length_map, List.length_map]; rw [List.length_append] at hSV; omega)
            have hlA : (tmap S ++ tmap (V ++ [natsOf t])).length = S.length + (V ++ [natsOf t]).length := by rw [List.length_append, List.length_map, List.length_map]
            rw [hlA] at happ2 hcA
            rw [hlS] at esd
            subst esd
            obtain ⟨sl, hsl⟩ : ∃ sl, S.length = sl := ⟨_, rfl⟩
            obtain ⟨al, hal⟩ : ∃ al, S.length + (V ++ [natsOf t]).length = al := ⟨_, rfl⟩
            rw [hal] at happ2 hcA
            rw [hsl] at happ1 x6
            rw [List.length_append, hal] at x7
            have HSG := Lib.hid ((Stay.of_below (G := fun _ => True) hbA).strs sg (fun _ _ _ => trivial))
            have HFa := Lib.hid (HFg.out.below hbA)
            have HBa := Lib.hid (HBg.out.trans (hbA.mono HBg.out.size))
            have HTA : Hid (tmap ((S ++ (V ++ [natsOf t])).take j) = (tmap S ++ tmap (V ++ [natsOf t])).take j) := Lib.hid (by rw [← tmap_app]; exact List.map_take ..)
            have HSA := Lib.hid (strs_part0 (cap := capA) (strs_take hsA (q := j)))
            have hjA : ((tmap S ++ tmap (V ++ [natsOf t])).take j).length = j := by rw [List.length_take, hlA]; omega
            have d1 : decide ((j : Int) < (sl : Int)) = false := by simp; omega
            have d2 : decide ((al : Int) < (j : Int)) = false := by simp; omega
            have hpt := fun wx : World => run_part_strs (w := wx) (a := adA) al capA j (by omega)
            clear hrs hru hrg sg hsA hbA hlA hlT hlS HFg HBg
            go_wp2_with (at_builtin; first | refine wpList_app_run rfl rfl happ1 rfl rfl ?_ | refine wpList_app_run rfl rfl happ2 rfl rfl ?_)
            have HTX := Lib.hid (texts_any HSG.out HSA.out (ln := j) (mn := j) (by rw [HTA.out]; exact hjA) hjA capG capA hj62)
            rw [HTA.out, decide_eq_true rfl] at HTX
            have HNU := Lib.hid fun k : Nat => kf_numbers (HFa.out.drewN k) (by have := HX2.out; omega) HX5.out HX1.out (n := N) (by simp)
            clear happ1 happ2 HSG HSA
            go_wp2_with fail
            refine HTX.out.mono ?_
            rintro e Wt ⟨rfl, kt, rfl⟩
            clear HTX
            go_wp2_with fail
            refine (HNU.out kt).mono ?_
            rintro e Wn ⟨adN, capN, rfl, hrow, hF, hb⟩
            have HBn := Lib.hid (HBa.out.trans (((below_drewN _ _ kt).trans hb).mono HBa.out.size))
            have HFn := Lib.hid hF
            obtain ⟨q, hq⟩ : ∃ q, N - 1 = q := ⟨_, rfl⟩
            obtain ⟨np, hnp⟩ : ∃ np, N + 1 = np := ⟨_, rfl⟩
            have HCE : Hid (∃ b, adN = some ⟨b, 0, none⟩ ∧ b < Wn.heap.size ∧ Wn.cell? ⟨b, q, none⟩ = some (.int .i64 (N : Int))) := Lib.hid (by
              obtain ⟨_, _, e1, _, _, _, hx⟩ := slice_of_own hrow (by simp [i64s, natI])
              cases e1
              rw [← hq]
              exact hx (N - 1) _ (by simp [i64s, natI, show N - 1 < N by omega]; omega))
            obtain ⟨bN, rfl, hbN, hcN⟩ := HCE.out
            have d3 : decide ((0 : Int) < (N : Int)) = true := by simp; omega
            have hsub : wrap64 ((N : Int) - 1) = (q : Int) := wrap_dn x3 (Nat.lt_trans x4 (by decide)) hq
            have hadd : wrap64 ((N : Int) + 1) = (np : Int) := wrap_up (Nat.lt_trans x4 (by decide)) hnp
            have hqN : q < N := by clear d1 d2 d3 hsub hadd; omega
            have HNX := Lib.hid (kf_new hF (np : Int) (lim : Int) (i64_nat (lt_up hnp x4)) (up_lt HX2.out) (by rw [cast_up hnp]; exact HX9.out) (n' := np) (l' := lim) (Int.toNat_natCast np) (Int.toNat_natCast lim))
            have HXN : Hid (KS A2 (i + 1) np ((S ++ (V ++ [natsOf t])).take j) []) := Lib.hid (by rw [← hnp]; exact HX10.out)
            clear hq hnp x3 x4
            clear hrow hF hb HCE HNU HBa HFa
            go_wp2_with fail
            refine HNX.out.mono ?_
            rintro e W8 ⟨lb8, rfl, hk, hb, -⟩
            have HKe := Lib.hid (hk.drop (L' := [(.slice adG j capG, tmap ((S ++ (V ++ [natsOf t])).take j))]) (List.Sublist.cons_cons _ (List.nil_sublist _))).none.swap.free
            have HBe := Lib.hid (HBn.out.trans hb)
            clear hk hb HNX
            go_wp2
            go_roundw
            case rel => exact ⟨i + 1, lb8, np, A2, (S ++ (V ++ [natsOf t])).take j, [], rfl, by go_num, hin2, hin1, HKe.out, HXN.out, HBe.out⟩
            case measure => simp [intOf]; omega
      · obtain rfl : i = 60 := by omega
        go_wp2
        go_ret
        exact ⟨rfl, HBr.out⟩
    · go_wp2
      go_ret
      exact ⟨rfl, HBr.out⟩
end walKeeps
end Go.Proofs.YtadnecgcoceklaaGreatDoor
