/-
  The document's own Lay and DocFrame; the law FrameLays, walked.
-/
import Derived.Test.YtdiehfjamnaoiaaFrRef1
import Derived.Test.YtdiehfjamnaoiaaFrTx
namespace Go.Proofs.Ytdiehfjamnaoiaa
open Go.RowKit

theorem natsOf_strOf' {l : List Nat} (h : ∀ x ∈ l, x < 256) : natsOf (strOf l) = l := natsOf_strOf h
def txtV : Value → Nat
  | .string s => s.size
  | _ => 0
def oneV : Value → Nat
  | .bool true => 1
  | _ => 0
set_option maxRecDepth 100000 in
set_option maxHeartbeats 2000000 in
theorem rLay_any (n : Nat) (hn : n < 128) (t : ByteArray) (hm : t.size ≤ 100000) (w : World) :
    Calls Try.prog 19 #[.int .i64 (n : Int), .string t] w fun e w' => e = .returned (.string (strOf (Frm.frameL n (natsOf t)))) ∧ Below w.heap.size w w' := by
  have HF : Hid (Frm.frameL n (natsOf t) = List.replicate (Frm.gap n) 0 ++ Frm.bodyL (Frm.room n) (natsOf t)) := Lib.hid rfl
  have HL := Lib.hid (Frm.frameL_len n (natsOf t))
  have HG : Hid (Frm.gap n = if 121 < n then 128 - n else 0) := Lib.hid (by rw [gap_pad, Nat.mod_eq_of_lt hn])
  have HRG := Lib.hid (Frm.room_gap n)
  have HRE := Lib.hid (Frm.room_end n)
  have hg6 := gap_le n
  have hrl := Frm.room_le n
  have HFB : Hid (∀ x ∈ Frm.frameL n (natsOf t), x < 256) := Lib.hid (Frm.frameL_byte (natsOf_byte t))
  obtain ⟨F, hF⟩ : ∃ F, Frm.frameL n (natsOf t) = F := ⟨_, rfl⟩
  rw [hF] at HF HL HFB ⊢
  rw [natsOf_length] at HL
  clear hF
  generalize Frm.room n = rm0 at *
  generalize Frm.gap n = g at *
  go_enter Try.func19, Try.ntmps19
  go_wp2
  go_loopw [5] (fun u5 wr => ∃ j : Nat, j ≤ g ∧ u5 = .string (strOf (zs j)) ∧ w = wr) (fun u5 _ => 6 - txtV u5)
  case atStart => exact ⟨0, Nat.zero_le _, rfl, rfl⟩
  case round =>
    obtain ⟨j, hj, rfl, rfl⟩ := hrel
    have hsz : (strOf (zs j)).size = j := by rw [strOf_size, zs_len]
    by_cases hlt : j < g
    · have hgt : 121 < ((n : Int) + (j : Int)) % 128 := by
        have := HG.out
        split at this <;> omega
      have hadd := fun wx => run_string_add_sum (P := Try.prog) (w := wx) (strOf (zs j)) (strOf [0]) (by rw [hsz]; show j + 1 ≤ _; omega)
      have HS : Hid (strOf (zs j) ++ strOf [0] = strOf (zs (j + 1))) := Lib.hid (by rw [strOf_app]; unfold zs; rw [List.replicate_succ'])
      have hc0 : (⟨#[0]⟩ : ByteArray) = strOf [0] := rfl
      have HSZ : Hid ((strOf (zs (j + 1))).size = j + 1) := Lib.hid (by rw [strOf_size, zs_len])
      generalize strOf (zs j) = S at *
      go_wp2_with fail
      go_roundw
      case rel => exact ⟨j + 1, by omega, by rw [HS.out], trivial⟩
      case measure => simp only [txtV]; rw [HS.out, HSZ.out, hsz]; omega
    · obtain rfl : j = g := by omega
      have hgt : ¬ (121 < ((n : Int) + (j : Int)) % 128) := by
        have := HG.out
        split at this <;> omega
      have HZ : Hid (natsOf (strOf (zs j)) = List.replicate j 0) := Lib.hid (natsOf_strOf (zs_byte j))
      generalize strOf (zs j) = S0 at *
      have HJ := Lib.hid hj
      clear hlt hj
      go_wp2_with fail
      go_loopw [1, 5, 6, 7, 8, 9] (fun u1 u5 u6 _ _ _ wr => ∃ (R S : ByteArray) (fs : Bool), u1 = .string R ∧ u5 = .string S ∧ u6 = .bool fs ∧ R.size ≤ t.size ∧ S.size ≤ F.length ∧ (fs = true → S.size = j) ∧ (fs = false → (n + S.size) % 128 = 0) ∧ Below w.heap.size w wr ∧ natsOf S ++ (if fs = true then Frm.bodyL rm0 (natsOf R) else Frm.tailP (natsOf R)) = F) (fun u1 _ u6 _ _ _ _ => 2 * txtV u1 + oneV u6)
      case atStart => exact ⟨t, S0, true, rfl, rfl, rfl, Nat.le_refl _, by rw [HF.out, List.length_append, List.length_replicate, hsz]; omega, (fun _ => hsz), (fun h => by cases h), Below.refl _ _, by rw [if_pos rfl, HZ.out, HF.out]⟩
      case round =>
        obtain ⟨R, S, fs, rfl, rfl, rfl, hR, hSF, hfs, hfz, hbel, hEq⟩ := hrel
        have HB := Lib.hid hbel
        have hws := hbel.size
        obtain ⟨rm, hrm⟩ : ∃ rm, Frm.room (n + S.size) = rm := ⟨_, rfl⟩
        have hrme : rm = if fs = true then rm0 else 121 := by
          rw [← hrm]
          cases fs with
          | true => rw [if_pos rfl, hfs rfl]; exact HRG.out
          | false => rw [if_neg (by simp)]; exact Frm.room_zero (hfz rfl)
        have hrm121 : rm ≤ 121 := by rw [hrme]; split <;> omega
        have HEQ : Hid (natsOf S ++ (if fs = true then Frm.bodyL rm (natsOf R) else Frm.tailP (natsOf R)) = F) := Lib.hid (by
          rw [← hEq]
          cases fs with
          | true => rw [if_pos rfl, if_pos rfl, hrme, if_pos rfl]
          | false => rw [if_neg (by simp), if_neg (by simp)])
        have HT : Hid (fs = false → rm = 121) := Lib.hid (fun h => by rw [hrme, h]; rfl)
        have HEND : Hid ((n + S.size + (7 + rm)) % 128 = 0) := Lib.hid (by
          rw [hrme]
          cases fs with
          | true => rw [if_pos rfl, hfs rfl]; exact HRE.out
          | false => rw [if_neg (by simp)]; have := hfz rfl; omega)
        have hln := natsOf_length R
        have hrr := rRoom_any (n + S.size) (by have := HL.out; omega) wr
        rw [hrm, show ((n + S.size : Nat) : Int) = (n : Int) + (S.size : Int) by push_cast; rfl] at hrr
        have HRR := Lib.hid hrr
        have hSL : S.size ≤ 2 * t.size + 28 := Nat.le_trans hSF HL.out
        have HSF := Lib.hid hSF
        clear hrm hrme hEq hfs hfz hbel hrr hgt HZ hsz hSF
        by_cases hgt : rm < R.size
        · have hmin := fun ts ty wx => run_min2 (P := Try.prog) (w := wx) ts ty (rm : Int) (R.size : Int) (rm : Int) (by omega)
          have hne : ((rm : Int) == (R.size : Int)) = false := by simp; omega
          have hxs : (R.extract 0 rm).size = rm := by rw [ByteArray.size_extract]; omega
          have hys : (R.extract rm R.size).size = R.size - rm := by rw [ByteArray.size_extract]; omega
          have hxn := natsOf_cut R 0 rm (by omega)
          have hyn := natsOf_cut R rm R.size (Nat.le_refl _)
          rw [List.drop_zero] at hxn
          rw [List.take_of_length_le (by omega)] at hyn
          have hP := fun k hk => rPiece_any k hk (R.extract 0 rm) (by omega) wr
          rw [hxn] at hP
          have hpb : ∀ k, k < 256 → ∀ x ∈ Frm.pieceL k ((natsOf R).take rm), x < 256 := fun k hk => Frm.pieceL_byte hk (fun x hx => natsOf_byte R x (List.mem_of_mem_take hx))
          have hpl : ∀ k, (strOf (Frm.pieceL k ((natsOf R).take rm))).size = 7 + rm := fun k => by rw [strOf_size, Frm.pieceL_length, List.length_take]; omega
          obtain ⟨k, hk, hkf⟩ : ∃ k, k < 256 ∧ k = if fs = true then 2 else 3 := ⟨if fs = true then 2 else 3, by split <;> omega, rfl⟩
          have HE2 : Hid (natsOf (S ++ strOf (Frm.pieceL k ((natsOf R).take rm))) ++ Frm.tailP ((natsOf R).drop rm) = F) := Lib.hid (by
            rw [natsOf_app, natsOf_strOf (hpb k hk), ← HEQ.out, List.append_assoc, hkf]
            cases fs with
            | true => rw [if_pos rfl, if_pos rfl]; unfold Frm.bodyL; rw [if_pos (by omega)]
            | false =>
              obtain rfl : rm = 121 := HT.out rfl
              rw [if_neg (by simp), if_neg (by simp)]; exact congrArg (natsOf S ++ ·) (Frm.tailP_more (by omega)).symm)
          have HPC := Lib.hid (hP k hk)
          have HPL := Lib.hid (hpl k)
          have HYN := Lib.hid hyn
          have HYS := Lib.hid hys
          have hadd := fun wx => run_string_add_sum (P := Try.prog) (w := wx) S (strOf (Frm.pieceL k ((natsOf R).take rm))) (by rw [hpl k]; omega)
          have HSN : Hid ((S ++ strOf (Frm.pieceL k ((natsOf R).take rm))).size ≤ F.length) := Lib.hid (by
            rw [← HE2.out, List.length_append, natsOf_length]; omega)
          generalize strOf (Frm.pieceL k ((natsOf R).take rm)) = P at *
          obtain ⟨X, hX⟩ : ∃ X, R.extract 0 rm = X := ⟨_, rfl⟩
          obtain ⟨Y, hY⟩ : ∃ Y, R.extract rm R.size = Y := ⟨_, rfl⟩
          rw [hX] at HPC hxs
          rw [hY] at HYN HYS
          clear hxn hyn hP hpb hpl hys HEQ hk
          cases fs with
          | true =>
            rw [if_pos rfl] at hkf
            subst hkf
            go_wp2_with fail
            refine HRR.out.mono ?_
            rintro e W1 ⟨rfl, rfl⟩
            go_wp2_with fail
            refine HPC.out.mono ?_
            rintro e W2 ⟨rfl, hb2⟩
            have HB2 := Lib.hid (HB.out.trans (hb2.mono hws))
            clear hb2
            go_wp2
            go_roundw
            case rel => exact ⟨Y, S ++ P, false, rfl, rfl, rfl, by rw [HYS.out]; omega, HSN.out, (fun h => by cases h), (fun _ => by rw [ByteArray.size_append, HPL.out, ← Nat.add_assoc]; exact HEND.out), HB2.out, by rw [if_neg (by simp), HYN.out]; exact HE2.out⟩
            case measure => simp only [txtV, oneV]; rw [HYS.out]; omega
          | false =>
            rw [if_neg (by simp)] at hkf
            subst hkf
            have HQ : Hid (rm = 121) := Lib.hid (HT.out rfl)
            go_wp2_with fail
            refine HRR.out.mono ?_
            rintro e W1 ⟨rfl, rfl⟩
            go_wp2_with fail
            refine HPC.out.mono ?_
            rintro e W2 ⟨rfl, hb2⟩
            have HB2 := Lib.hid (HB.out.trans (hb2.mono hws))
            clear hb2
            go_wp2
            go_roundw
            case rel => exact ⟨Y, S ++ P, false, rfl, rfl, rfl, by rw [HYS.out]; omega, HSN.out, (fun h => by cases h), (fun _ => by rw [ByteArray.size_append, HPL.out, ← Nat.add_assoc]; exact HEND.out), HB2.out, by rw [if_neg (by simp), HYN.out]; exact HE2.out⟩
            case measure => simp only [txtV, oneV]; rw [HYS.out]; have hq := HQ.out; omega
        · have hmin := fun ts ty wx => run_min2 (P := Try.prog) (w := wx) ts ty (rm : Int) (R.size : Int) (R.size : Int) (by omega)
          have hne : ((R.size : Int) == (R.size : Int)) = true := by simp
          have hxe : R.extract 0 R.size = R := by
            rw [extract_str R 0 R.size (Nat.le_refl _), List.drop_zero, List.take_of_length_le (by omega), strOf_natsOf]
          have hP := fun k hk => rPiece_any k hk R (by omega) wr
          obtain ⟨k, hk, hkf⟩ : ∃ k, k < 256 ∧ k = if fs = true then 1 else 4 := ⟨if fs = true then 1 else 4, by split <;> omega, rfl⟩
          have HE2 : Hid (S ++ strOf (Frm.pieceL k (natsOf R)) = strOf F) := Lib.hid (by
            have e : natsOf S ++ Frm.pieceL k (natsOf R) = F := by
              rw [← HEQ.out, hkf]
              cases fs with
              | true => rw [if_pos rfl, if_pos rfl]; unfold Frm.bodyL; rw [if_neg (by omega)]
              | false =>
                obtain rfl : rm = 121 := HT.out rfl
                rw [if_neg (by simp), if_neg (by simp)]; exact congrArg (natsOf S ++ ·) (Frm.tailP_last (by omega)).symm
            conv => lhs; rw [← strOf_natsOf S]
            rw [strOf_app, e])
          have HPC := Lib.hid (hP k hk)
          have hadd := fun wx => run_string_add_sum (P := Try.prog) (w := wx) S (strOf (Frm.pieceL k (natsOf R))) (by rw [strOf_size, Frm.pieceL_length]; omega)
          generalize strOf (Frm.pieceL k (natsOf R)) = P at *
          clear hP HEQ hk
          cases fs with
          | true =>
            rw [if_pos rfl] at hkf
            subst hkf
            go_wp2_with fail
            refine HRR.out.mono ?_
            rintro e W1 ⟨rfl, rfl⟩
            go_wp2_with fail
            refine HPC.out.mono ?_
            rintro e W2 ⟨rfl, hb2⟩
            have HB2 := Lib.hid (HB.out.trans (hb2.mono hws))
            clear hb2
            go_wp2
            go_ret
            exact ⟨by rw [← HE2.out]; rfl, HB2.out⟩
          | false =>
            rw [if_neg (by simp)] at hkf
            subst hkf
            go_wp2_with fail
            refine HRR.out.mono ?_
            rintro e W1 ⟨rfl, rfl⟩
            go_wp2_with fail
            refine HPC.out.mono ?_
            rintro e W2 ⟨rfl, hb2⟩
            have HB2 := Lib.hid (HB.out.trans (hb2.mono hws))
            clear hb2
            go_wp2
            go_ret
            exact ⟨by rw [← HE2.out]; rfl, HB2.out⟩
theorem frame_mod (A : Nat) (r : List Nat) : Frm.frameL (A % 128) r = Frm.frameL A r := by
  unfold Frm.frameL Frm.gap Frm.room Frm.left; rw [Nat.mod_mod]
set_option maxRecDepth 100000 in
theorem rDocFrame_any (A : Nat) (hA : A ≤ 9223372036854775807) (t : ByteArray) (hm : t.size ≤ 100000) (w : World) :
    Calls Try.prog 11 #[.int .i64 (A : Int), .string t] w fun e w' => e = .returned (.tuple #[.string (strOf (Frm.frameL A (natsOf t))), .int .i64 0]) ∧ Below w.heap.size w w' := by
  have h := rLay_any (A % 128) (Nat.mod_lt _ (by omega)) t hm w
  rw [frame_mod, show ((A % 128 : Nat) : Int) = (A : Int) % 128 by omega] at h
  have HL := Lib.hid h
  clear h
  go_enter Try.func11, Try.ntmps11
  go_wp2_with fail
  refine HL.out.mono ?_
  rintro e W1 ⟨rfl, hb1⟩
  have HB := Lib.hid hb1
  clear hb1
  go_wp2
  go_ret2
  exact ⟨rfl, HB.out⟩
theorem rDocFrame_neg (z : Int) (hz : z < 0) (t : ByteArray) (w : World) :
    Calls Try.prog 11 #[.int .i64 z, .string t] w fun e w' => e = .returned (.tuple #[.string ⟨#[]⟩, .int .i64 1]) ∧ w = w' := by
  go_enter Try.func11, Try.ntmps11
  go_wp2
  go_ret2
  exact ⟨rfl, rfl⟩
namespace frameLays
set_option maxRecDepth 100000 in
set_option maxHeartbeats 2000000 in
theorem walk (a0 : Int) (a1 : Option Addr) (len1 cap1 : Nat) (z1 : List Int) (W : World) (w0 : (Lit.int .i64 a0).wf = true) (w1 : IsRow .u8 W a1 len1 cap1 z1) :
    Calls Try.prog 3 #[.int .i64 a0, .slice a1 len1 cap1] W fun e w' => e = .returned (.bool true) ∧ Below W.heap.size W w' := by
  have hnil : a1 = none → len1 = 0 ∧ cap1 = 0 := fun e => by
    rcases w1 with ⟨_, h1, h2, _⟩ | ⟨x, h, _⟩
    · exact ⟨h1, h2⟩
    · rw [e] at h; cases h
  obtain ⟨l, hln, hl, hlb, hc0, hcm, _⟩ := w1.byt
  have hlen : len1 ≤ 9223372036854775807 := by unfold maxLen at hcm; omega
  have hwf := wf_i64 w0
  by_cases h5 : 5000 < len1
  · have HF := Lib.hid (framed_any W)
    clear hl hln hlb w0 w1 hnil
    go_enter Try.func3, Try.ntmps3
    go_wp2_with fail
    refine HF.out.mono ?_
    rintro e W1 ⟨rfl, hb1⟩
    have HB := Lib.hid hb1
    clear hb1
    go_wp2
    go_ret
    exact ⟨rfl, HB.out⟩
  · have hnl : a1 = none → l = [] := fun e => List.length_eq_zero_iff.1 (by rw [hln]; exact (hnil e).1)
    have hcv := fun wx (h : Byt wx a1 l) => conv_bytes h hlb hnl cap1 len1 hln
    have hts : (strOf l).size = len1 := by rw [strOf_size, hln]
    have htn : natsOf (strOf l) = l := natsOf_strOf hlb
    have HL := Lib.hid hl
    have HLB := Lib.hid hlb
    have HLN := Lib.hid hln
    have HNL := Lib.hid (fun e => (⟨hnl e, (hnil e).2⟩ : l = [] ∧ cap1 = 0))
    have hcv1 := hcv W hl
    by_cases hneg : a0 < 0
    · have HD := Lib.hid (rDocFrame_neg a0 hneg (strOf l) W)
      have HFN := Lib.hid (fun wx => Frame_neg wx a0 hneg (.slice a1 len1 cap1))
      have HF := Lib.hid (framed_any W)
      have HR := Lib.hid (fun wx => Room_neg a0 hneg wx)
      have HRR := Lib.hid (fun wx => rRoom_neg a0 hneg wx)
      have hcn := conv_nil
      generalize strOf l = T at *
      clear hl hln hlb w0 w1 hnil hnl hcv hts htn
      go_enter Try.func3, Try.ntmps3
      go_wp2_with fail
      refine (HD.out).mono ?_
      rintro e w' ⟨rfl, rfl⟩
      go_wp2_with fail
      refine (HFN.out _).mono ?_
      rintro e w' ⟨rfl, rfl⟩
      go_wp2_with fail
      refine HF.out.mono ?_
      rintro e W1 ⟨rfl, hb1⟩
      have HB := Lib.hid hb1
      have hcn1 := hcn W1
      clear hb1 hcn
      go_wp2_with fail
      refine (HR.out _).mono ?_
      rintro e w' ⟨rfl, rfl⟩
      go_wp2_with fail
      refine (HRR.out _).mono ?_
      rintro e w' ⟨rfl, rfl⟩
      go_wp2
      go_ret
      exact ⟨rfl, HB.out⟩
    · obtain ⟨A, rfl⟩ : ∃ A : Nat, a0 = (A : Int) := ⟨a0.toNat, by omega⟩
      have hD := rDocFrame_any A (by omega) (strOf l) (by omega) W
      rw [htn] at hD
      have HD := Lib.hid hD
      have hFb := Frm.frameL_byte (n := A) HLB.out
      have HFR : Hid (∀ wx, Byt wx a1 l → Calls Try.prog 12 #[.int .i64 (A : Int), .slice a1 len1 cap1] wx (FrameV wx (Frm.frameL A l))) := Lib.hid (fun wx h => by
        have := Frame_any wx A (by omega) a1 cap1 l h HLB.out (by rw [HLN.out]; exact hc0) HNL.out (by rw [HLN.out]; omega)
        rw [HLN.out] at this; exact this)
      have HF := Lib.hid (fun wx => framed_any wx)
      have HR := Lib.hid (fun wx => Room_any A (by omega) wx)
      have HRR := Lib.hid (fun wx => rRoom_any A (by omega) wx)
      obtain ⟨F, hF⟩ : ∃ F, Frm.frameL A l = F := ⟨_, rfl⟩
      rw [hF] at HD hFb HFR
      have HFB := Lib.hid hFb
      generalize strOf l = T0 at *
      clear hl hln hlb w0 w1 hnil hnl hcv hts htn hF hD hFb hneg
      go_enter Try.func3, Try.ntmps3
      go_wp2_with fail
      refine HD.out.mono ?_
      rintro e W1 ⟨rfl, hb1⟩
      have HB1 := Lib.hid hb1
      have HC1 := Lib.hid (HFR.out W1 (HL.out.keep hb1))
      have s1 := hb1.size
      clear hb1
      go_wp2_with fail
      refine HC1.out.mono ?_
      rintro e W2 ⟨vf, rfl, hof, hb2⟩
      obtain ⟨af, cf, rfl, hyf, hnf, hcf⟩ := byt_of_own hof
      have HB2 := Lib.hid (HB1.out.trans (hb2.mono s1))
      have s2 := HB2.out.size
      have HYF := Lib.hid hyf
      have HNF := Lib.hid hnf
      clear hof hyf hnf hcf hb2 HC1
      go_wp2_with fail
      refine (HF.out _).mono ?_
      rintro e W3 ⟨rfl, hb3⟩
      have hcv3 := conv_bytes (HYF.out.keep hb3) HFB.out HNF.out cf F.length rfl
      have HB3 := Lib.hid (HB2.out.trans (hb3.mono s2))
      obtain ⟨T, hT⟩ : ∃ T, strOf F = T := ⟨_, rfl⟩
      rw [hT] at hcv3
      clear hb3
      go_wp2_with fail
      refine (HR.out _).mono ?_
      rintro e w' ⟨rfl, rfl⟩
      go_wp2_with fail
      refine (HRR.out _).mono ?_
      rintro e w' ⟨rfl, rfl⟩
      go_wp2
      go_ret
      exact ⟨rfl, HB3.out⟩
end frameLays
end Go.Proofs.Ytdiehfjamnaoiaa
