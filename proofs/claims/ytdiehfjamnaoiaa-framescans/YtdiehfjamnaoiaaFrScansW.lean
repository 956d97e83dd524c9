/-
  The document's own DocScan; the law FrameScans, walked.
-/
import Derived.Test.YtdiehfjamnaoiaaFrRef3
namespace Go.Proofs.Ytdiehfjamnaoiaa
open Go.RowKit

theorem scan_count : ∀ (N n : Nat) (r : List Nat) (en : Nat) (rec : List Nat) (b : Bool), r.length ≤ N → (Frm.scanR n r en rec b).1.length ≤ r.length := by
  intro N
  induction N with
  | zero =>
    intro n r en rec b h
    have : r = [] := List.length_eq_zero_iff.1 (by omega)
    subst this
    rw [Frm.scan_nil]; exact Nat.le_refl _
  | succ N ih =>
    intro n r en rec b h
    cases hp : Frm.pieceAt (Frm.room n) (r.drop (Frm.gap n)) with
    | none => rw [Frm.scan_none hp]; exact Nat.zero_le _
    | some kp =>
      obtain ⟨k, p⟩ := kp
      have hl := (Frm.pieceAt_len hp).1
      rw [List.length_drop] at hl
      have hd : ((r.drop (Frm.gap n)).drop (7 + p.length)).length + 7 ≤ r.length := by rw [List.length_drop, List.length_drop]; omega
      cases hf : Frm.follows k b with
      | false => rw [Frm.scan_bad hp hf]; exact Nat.zero_le _
      | true =>
        by_cases hk : k = 2 ∨ k = 3
        · rw [Frm.scan_more hp hf hk]
          have := ih (n + Frm.gap n + (7 + p.length)) ((r.drop (Frm.gap n)).drop (7 + p.length)) en (rec ++ p) true (by omega)
          omega
        · rw [Frm.scan_last hp hf hk]
          have := ih (n + Frm.gap n + (7 + p.length)) ((r.drop (Frm.gap n)).drop (7 + p.length)) (n + Frm.gap n + (7 + p.length)) [] false (by omega)
          rw [List.length_cons]; omega
/-- A piece that doesn't count ends all. -/
theorem scan_nextNone {l : List Nat} {n en : Nat} {rec : List Nat} {b : Bool} (h : nextS l n = none) : Frm.scanR n (l.drop n) en rec b = ([], en) := by
  unfold nextS at h
  split at h
  · rename_i k p hp
    split at h
    · cases h
    · rename_i hk
      exact Frm.scan_bad hp (by unfold Frm.follows; rw [if_neg (by omega), if_neg (by omega)])
  · rename_i hp
    exact Frm.scan_none hp
theorem nextS_some {l : List Nat} {n k : Nat} {p : List Nat} (h : nextS l n = some (k, p)) : Frm.pieceAt (Frm.room n) ((l.drop n).drop (Frm.gap n)) = some (k, p) ∧ 1 ≤ k ∧ k ≤ 4 := by
  unfold nextS at h
  split at h
  · rename_i k' p' hp
    split at h
    · rename_i hk
      injection h with h
      injection h with h1 h2
      subst h1; subst h2
      exact ⟨hp, hk⟩
    · cases h
  · cases h
set_option maxRecDepth 100000 in
set_option maxHeartbeats 2000000 in
theorem rDocScan_any (w : World) (t : ByteArray) (hm : t.size ≤ 50000) :
    Calls Try.prog 15 #[.string t] w (ScanV w (Frm.scanR 0 (natsOf t) 0 [] false)) := by
  obtain ⟨S, hS⟩ : ∃ S, Frm.scanR 0 (natsOf t) 0 [] false = S := ⟨_, rfl⟩
  rw [hS]
  have HS := Lib.hid hS
  have hlen := natsOf_length t
  clear hS
  go_enter Try.func15, Try.ntmps15
  go_wp2_with fail
  go_loopw [4, 5, 6, 7, 8, 9, 10, 11, 12] (fun u4 u5 u6 u7 u8 _ _ _ _ wr => ∃ (rs : List (List Nat)) (R : ByteArray) (n en : Nat) (bg : Bool), u5 = .int .i64 (n : Int) ∧ u6 = .int .i64 (en : Int) ∧ u7 = .bool bg ∧ u8 = .string R ∧ n ≤ t.size ∧ R.size ≤ t.size ∧ rs.length ≤ n ∧ (bg = true → R.size ≤ n) ∧ wr.ownsRow w.heap.size 9 1 u4 rs.length (strV (rs.map strOf)) ∧ Below w.heap.size w wr ∧ rs ++ (Frm.scanR n ((natsOf t).drop n) en (if bg = true then natsOf R else []) bg).1 = S.1 ∧ (Frm.scanR n ((natsOf t).drop n) en (if bg = true then natsOf R else []) bg).2 = S.2) (fun _ u5 _ _ _ _ _ _ _ _ => t.size - (intOf u5).toNat)
  case atStart => exact ⟨[], ⟨#[]⟩, 0, 0, false, rfl, rfl, rfl, rfl, Nat.zero_le _, Nat.zero_le _, Nat.le_refl _, (fun h => by cases h), World.ownsRow_nil _ _ _ _, Below.refl _ _, by rw [List.drop_zero, if_neg (by simp), HS.out]; rfl, by rw [List.drop_zero, if_neg (by simp), HS.out]⟩
  case round =>
    obtain ⟨rs, R, n, en, bg, rfl, rfl, rfl, rfl, hn, hR, hrs, hbR, ho, hbel, hq1, hq2⟩ := hrel
    have hws := hbel.size
    have HN := Lib.hid (rnext_any t n hm hn wr)
    have HO := Lib.hid ho
    have HBE := Lib.hid hbel
    have HQ1 := Lib.hid hq1
    have HQ2 := Lib.hid hq2
    clear ho hbel hq1 hq2 HS
    go_wp2_with fail
    refine HN.out.mono ?_
    rintro e X1 ⟨⟨k, s, to, ok, rfl, hcase⟩, hb1⟩
    have HB1 := Lib.hid hb1
    have s1 := hb1.size
    clear hb1 HN
    rcases hcase with ⟨hno, rfl⟩ | ⟨hno, rfl, rfl⟩
    · have hr := scan_nextNone (en := en) (rec := if bg = true then natsOf R else []) (b := bg) hno
      have h1 := HQ1.out
      have h2 := HQ2.out
      rw [hr] at h1 h2
      have HE1 : Hid (rs = S.1) := Lib.hid (by simpa using h1)
      have HE2 : Hid (en = S.2) := Lib.hid h2
      clear h1 h2 hr hno
      go_wp2
      go_ret2
      exact ⟨_, by rw [HE2.out]; rfl, by rw [← HE1.out]; exact own_keep HO.out HB1.out, HBE.out.trans (HB1.out.mono hws)⟩
    · obtain ⟨hpa, hk1, hk4⟩ := nextS_some hno
      obtain ⟨hpl, hpr⟩ := Frm.pieceAt_len hpa
      rw [natsOf_length, List.length_drop, List.length_drop, hlen] at hpl
      rw [natsOf_length] at hpr
      have hg6 := gap_le n
      have hrm := Frm.room_le n
      have HX := Lib.hid hpa
      have hto : n + Frm.gap n + (7 + s.size) ≤ t.size := by omega
      obtain ⟨m, hmm⟩ : ∃ m, n + Frm.gap n + (7 + s.size) = m := ⟨_, rfl⟩
      have HDD : Hid (((natsOf t).drop n).drop (Frm.gap n) = (natsOf t).drop (n + Frm.gap n)) := Lib.hid (List.drop_drop)
      have hnm : n + 7 + s.size ≤ m := by omega
      rw [hmm] at hto ⊢
      have HMM := Lib.hid hmm
      have hD3 : (((natsOf t).drop n).drop (Frm.gap n)).drop (7 + s.size) = (natsOf t).drop m := by rw [List.drop_drop, List.drop_drop, ← hmm]; congr 1; omega
      have HD3 := Lib.hid hD3
      have hsr : s.size ≤ 121 := by omega
      clear hpl hpr hg6 hrm hmm hpa hno hD3
      have HO1 : Hid (X1.ownsRow w.heap.size 9 1 _ rs.length (strV (rs.map strOf))) := Lib.hid (own_keep HO.out HB1.out)
      have HBX : Hid (Below w.heap.size w X1) := Lib.hid (HBE.out.trans (HB1.out.mono hws))
      clear HO HBE HB1
      cases bg with
      | false =>
        rw [if_neg (by simp)] at HQ1 HQ2
        clear hbR
        rcases (show k = 1 ∨ k = 2 ∨ k = 3 ∨ k = 4 by omega) with rfl | rfl | rfl | rfl
        · have hr := Frm.scan_last (en := en) (rec := []) (b := false) HX.out (by rfl) (by omega)
          rw [natsOf_length, HMM.out, HD3.out] at hr
          have h1 := HQ1.out
          have h2 := HQ2.out
          rw [hr] at h1 h2
          have hadd := fun wx => run_string_add_sum (P := Try.prog) (w := wx) (⟨#[]⟩ : ByteArray) s (by show 0 + s.size ≤ _; omega)
          have HNA : Hid ([] ++ natsOf s = natsOf ((⟨#[]⟩ : ByteArray) ++ s)) := Lib.hid (by rw [natsOf_app]; rfl)
          have HSZ : Hid (((⟨#[]⟩ : ByteArray) ++ s).size = s.size) := Lib.hid (by rw [ByteArray.size_append]; show 0 + s.size = _; omega)
          rw [HNA.out] at h1 h2
          have HE1 := Lib.hid h1
          have HE2 := Lib.hid h2
          obtain ⟨Y, hY⟩ : ∃ Y, (⟨#[]⟩ : ByteArray) ++ s = Y := ⟨_, rfl⟩
          rw [hY] at HE1 HE2 HSZ
          obtain ⟨v4', X2, r4, o4, b4, -⟩ := appT w.heap.size X1 _ (rs.map strOf) Y rs.length HO1.out (by have := HBX.out.size; omega) (by omega)
          have HO4 := Lib.hid o4
          have HB4 := Lib.hid (HBX.out.trans b4)
          clear h1 h2 hr o4 b4
          go_wp2_with (at_builtin; refine wpList_app_run rfl rfl r4 rfl rfl ?_)
          go_roundw
          case rel => exact ⟨rs ++ [natsOf Y], Y, m, m, false, rfl, rfl, rfl, rfl, hto, by rw [HSZ.out]; omega, by rw [List.length_append]; show rs.length + 1 ≤ m; omega, (fun h => by cases h), by rw [List.length_append, List.map_append, List.map_singleton, strOf_natsOf]; exact HO4.out, HB4.out, by rw [List.append_assoc]; exact HE1.out, HE2.out⟩
          case measure => simp [intOf]; omega
        · have hr := Frm.scan_more (en := en) (rec := []) (b := false) HX.out (by rfl) (by omega)
          rw [natsOf_length, HMM.out, HD3.out] at hr
          have h1 := HQ1.out
          have h2 := HQ2.out
          rw [hr] at h1 h2
          have hadd := fun wx => run_string_add_sum (P := Try.prog) (w := wx) (⟨#[]⟩ : ByteArray) s (by show 0 + s.size ≤ _; omega)
          have HNA : Hid ([] ++ natsOf s = natsOf ((⟨#[]⟩ : ByteArray) ++ s)) := Lib.hid (by rw [natsOf_app]; rfl)
          have HSZ : Hid (((⟨#[]⟩ : ByteArray) ++ s).size = s.size) := Lib.hid (by rw [ByteArray.size_append]; show 0 + s.size = _; omega)
          rw [HNA.out] at h1 h2
          have HE1 := Lib.hid h1
          have HE2 := Lib.hid h2
          clear h1 h2 hr
          go_wp2
          go_roundw
          case rel => exact ⟨rs, (⟨#[]⟩ : ByteArray) ++ s, m, en, true, rfl, rfl, rfl, rfl, hto, by rw [HSZ.out]; omega, by omega, (fun _ => by rw [HSZ.out]; omega), HO1.out, HBX.out, HE1.out, HE2.out⟩
          case measure => simp [intOf]; omega
        · have hr := Frm.scan_bad (en := en) (rec := []) (b := false) HX.out (by rfl)
          have h1 := HQ1.out
          have h2 := HQ2.out
          rw [hr] at h1 h2
          have HE1 : Hid (rs = S.1) := Lib.hid (by simpa using h1)
          have HE2 : Hid (en = S.2) := Lib.hid h2
          clear h1 h2 hr
          go_wp2
          go_ret2
          exact ⟨_, by rw [HE2.out]; rfl, by rw [← HE1.out]; exact HO1.out, HBX.out⟩
        · have hr := Frm.scan_bad (en := en) (rec := []) (b := false) HX.out (by rfl)
          have h1 := HQ1.out
          have h2 := HQ2.out
          rw [hr] at h1 h2
          have HE1 : Hid (rs = S.1) := Lib.hid (by simpa using h1)
          have HE2 : Hid (en = S.2) := Lib.hid h2
          clear h1 h2 hr
          go_wp2
          go_ret2
          exact ⟨_, by rw [HE2.out]; rfl, by rw [← HE1.out]; exact HO1.out, HBX.out⟩
      | true =>
        rw [if_pos rfl] at HQ1 HQ2
        have HBR := Lib.hid (hbR rfl)
        clear hbR
        rcases (show k = 1 ∨ k = 2 ∨ k = 3 ∨ k = 4 by omega) with rfl | rfl | rfl | rfl
        · have hr := Frm.scan_bad (en := en) (rec := natsOf R) (b := true) HX.out (by rfl)
          have h1 := HQ1.out
          have h2 := HQ2.out
          rw [hr] at h1 h2
          have HE1 : Hid (rs = S.1) := Lib.hid (by simpa using h1)
          have HE2 : Hid (en = S.2) := Lib.hid h2
          clear h1 h2 hr
          go_wp2
          go_ret2
          exact ⟨_, by rw [HE2.out]; rfl, by rw [← HE1.out]; exact HO1.out, HBX.out⟩
        · have hr := Frm.scan_bad (en := en) (rec := natsOf R) (b := true) HX.out (by rfl)
          have h1 := HQ1.out
          have h2 := HQ2.out
          rw [hr] at h1 h2
          have HE1 : Hid (rs = S.1) := Lib.hid (by simpa using h1)
          have HE2 : Hid (en = S.2) := Lib.hid h2
          clear h1 h2 hr
          go_wp2
          go_ret2
          exact ⟨_, by rw [HE2.out]; rfl, by rw [← HE1.out]; exact HO1.out, HBX.out⟩
        · have hr := Frm.scan_more (en := en) (rec := (natsOf R)) (b := true) HX.out (by rfl) (by omega)
          rw [natsOf_length, HMM.out, HD3.out] at hr
          have h1 := HQ1.out
          have h2 := HQ2.out
          rw [hr] at h1 h2
          have hadd := fun wx => run_string_add_sum (P := Try.prog) (w := wx) R s (by omega)
          have HNA : Hid ((natsOf R) ++ natsOf s = natsOf (R ++ s)) := Lib.hid (by rw [natsOf_app])
          have HSZ : Hid ((R ++ s).size = R.size + s.size) := Lib.hid (by rw [ByteArray.size_append])
          rw [HNA.out] at h1 h2
          have HE1 := Lib.hid h1
          have HE2 := Lib.hid h2
          clear h1 h2 hr
          go_wp2
          go_roundw
          case rel => exact ⟨rs, R ++ s, m, en, true, rfl, rfl, rfl, rfl, hto, by rw [HSZ.out]; have := HBR.out; omega, by omega, (fun _ => by rw [HSZ.out]; have := HBR.out; omega), HO1.out, HBX.out, HE1.out, HE2.out⟩
          case measure => simp [intOf]; omega
        · have hr := Frm.scan_last (en := en) (rec := (natsOf R)) (b := true) HX.out (by rfl) (by omega)
          rw [natsOf_length, HMM.out, HD3.out] at hr
          have h1 := HQ1.out
          have h2 := HQ2.out
          rw [hr] at h1 h2
          have hadd := fun wx => run_string_add_sum (P := Try.prog) (w := wx) R s (by omega)
          have HNA : Hid ((natsOf R) ++ natsOf s = natsOf (R ++ s)) := Lib.hid (by rw [natsOf_app])
          have HSZ : Hid ((R ++ s).size = R.size + s.size) := Lib.hid (by rw [ByteArray.size_append])
          rw [HNA.out] at h1 h2
          have HE1 := Lib.hid h1
          have HE2 := Lib.hid h2
          obtain ⟨Y, hY⟩ : ∃ Y, R ++ s = Y := ⟨_, rfl⟩
          rw [hY] at HE1 HE2 HSZ
          obtain ⟨v4', X2, r4, o4, b4, -⟩ := appT w.heap.size X1 _ (rs.map strOf) Y rs.length HO1.out (by have := HBX.out.size; omega) (by omega)
          have HO4 := Lib.hid o4
          have HB4 := Lib.hid (HBX.out.trans b4)
          clear h1 h2 hr o4 b4
          go_wp2_with (at_builtin; refine wpList_app_run rfl rfl r4 rfl rfl ?_)
          go_roundw
          case rel => exact ⟨rs ++ [natsOf Y], Y, m, m, false, rfl, rfl, rfl, rfl, hto, by rw [HSZ.out]; have := HBR.out; omega, by rw [List.length_append]; show rs.length + 1 ≤ m; omega, (fun h => by cases h), by rw [List.length_append, List.map_append, List.map_singleton, strOf_natsOf]; exact HO4.out, HB4.out, by rw [List.append_assoc]; exact HE1.out, HE2.out⟩
          case measure => simp [intOf]; omega
namespace frameScans
set_option maxRecDepth 100000 in
set_option maxHeartbeats 2000000 in
theorem walk (a0 : Option Addr) (len0 cap0 : Nat) (z0 : List Int) (W : World) (w0 : IsRow .u8 W a0 len0 cap0 z0) :
    Calls Try.prog 4 #[.slice a0 len0 cap0] W fun e w' => e = .returned (.bool true) ∧ Below W.heap.size W w' := by
  obtain ⟨l, hln, hl, hlb, hc0, hcm, hnl⟩ := w0.byt
  have hlen : len0 ≤ 9223372036854775807 := by unfold maxLen at hcm; omega
  by_cases h5 : 5000 < len0
  · have HF := Lib.hid (framed_any W)
    clear hl hln hlb w0
    go_enter Try.func4, Try.ntmps4
    go_wp2_with fail
    refine HF.out.mono ?_
    rintro e W1 ⟨rfl, hb1⟩
    have HB := Lib.hid hb1
    clear hb1
    go_wp2
    go_ret
    exact ⟨rfl, HB.out⟩
  · have hcv := conv_bytes hl hlb hnl cap0 len0 hln
    have hts : (strOf l).size = len0 := by rw [strOf_size, hln]
    have hD := rDocScan_any W (strOf l) (by omega)
    rw [natsOf_strOf hlb] at hD
    have HL := Lib.hid hl
    have hsc := fun wx (h : Byt wx a0 l) => Scan_any wx a0 cap0 l h hlb (by rw [hln]; exact hc0) (by rw [hln]; omega)
    rw [hln] at hsc
    obtain ⟨S, hS⟩ : ∃ S, Frm.scanR 0 l 0 [] false = S := ⟨_, rfl⟩
    have hcnt : S.1.length ≤ 1000000000 := by
      rw [← hS]
      exact Nat.le_trans (scan_count l.length 0 l 0 [] false (Nat.le_refl _)) (by rw [hln]; omega)
    rw [hS] at hD hsc
    have HD := Lib.hid hD
    have HSC := Lib.hid hsc
    have HF := Lib.hid (fun wx => framed_any wx)
    generalize strOf l = T0 at *
    clear hl hln hlb w0 hD hsc hts hS hnl
    go_enter Try.func4, Try.ntmps4
    go_wp2_with fail
    refine HD.out.mono ?_
    rintro e W1 ⟨v1, rfl, ho1, hb1⟩
    have HB1 := Lib.hid hb1
    have s1 := hb1.size
    have HC1 := Lib.hid (HSC.out W1 (HL.out.keep hb1))
    have HO1 := Lib.hid ho1
    clear hb1 ho1
    go_wp2_with fail
    refine HC1.out.mono ?_
    rintro e W2 ⟨v2, rfl, ho2, hb2⟩
    have HB2 := Lib.hid (HB1.out.trans (hb2.mono s1))
    have s2 := HB2.out.size
    obtain ⟨a1, c1, rfl, hl1, hst1, hc1⟩ := strs_of_own (own_keep HO1.out hb2)
    obtain ⟨a2, c2, rfl, hl2, hst2, hc2⟩ := strs_of_own ho2
    have HS1 := Lib.hid hst1
    have HS2 := Lib.hid hst2
    have HLN := Lib.hid hl1
    clear ho2 hb2 hst1 hst2 HC1 HO1 hl1 hl2
    go_wp2_with fail
    refine (HF.out _).mono ?_
    rintro e W3 ⟨rfl, hb3⟩
    have HB3 := Lib.hid (HB2.out.trans (hb3.mono s2))
    have s3 := HB3.out.size
    have hT := Texts_any W3 a1 a2 S.1.length S.1.length c1 c2 (S.1.map strOf) (S.1.map strOf) (HS1.out.keep hb3) (HS2.out.keep hb3) HLN.out HLN.out hcnt hcnt
    rw [decide_eq_true rfl] at hT
    have HT := Lib.hid hT
    clear hT hb3
    go_wp2_with fail
    refine HT.out.mono ?_
    rintro e W4 ⟨rfl, hb4⟩
    have HB4 := Lib.hid (HB3.out.trans (hb4.mono s3))
    clear hb4
    go_wp2
    go_ret
    exact ⟨rfl, HB4.out⟩
end frameScans
end Go.Proofs.Ytdiehfjamnaoiaa
