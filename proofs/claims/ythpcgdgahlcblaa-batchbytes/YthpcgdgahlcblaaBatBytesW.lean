/-
  The law BatchBytes, walked.
-/
import Derived.Test.YthpcgdgahlcblaaBatH4
import Derived.Test.YthpcgdgahlcblaaBatArg
namespace Go.Proofs.Ythpcgdgahlcblaa
open Go.RowKit

theorem encV_row {w w' : World} {seq : Int} {l : List OpV} {e : Ending} (h : EncV w seq l e w') : ∃ a c, e = .returned (.tuple #[.slice a (encR seq l).length c, .int .i64 (chkI seq l)]) ∧ Byt w' a (encR seq l) ∧ (a = none → encR seq l = []) ∧ Below w.heap.size w w' := by
  obtain ⟨v, rfl, ho, hb⟩ := h
  obtain ⟨a, c, rfl, h1, h2, h3⟩ := byt_of_own ho
  exact ⟨a, c, rfl, h1, h2, hb⟩
namespace batchBytes
set_option maxRecDepth 100000 in
set_option maxHeartbeats 4000000 in
theorem walk (seq : Int) (a1 : Option Addr) (len1 cap1 : Nat) (z1 : List OpV) (a2 : Option Addr) (len2 cap2 : Nat) (z2 : List Int) (w : World) (w0 : (Lit.int .i64 seq).wf = true) (w1 : IsOps w a1 len1 cap1 z1) (w2 : VA.IsRow .u8 w a2 len2 cap2 z2) :
    Calls Try.prog 3 #[.int .i64 seq, .slice a1 len1 cap1, .slice a2 len2 cap2] w fun e w' => e = .returned (.bool true) ∧ Below w.heap.size w w' := by
  obtain ⟨lb, hln2, hby, hy, hcap, hmax, hni⟩ := w2.byt
  replace hby : Byt w a2 lb := hby
  obtain ⟨hlen1, hops, hc1, hmx1, -, -⟩ := w1
  have hs := VA.wf_i64 w0
  have hmm : len1 ≤ 9223372036854775807 := by unfold maxLen at hmx1; omega
  have HBT := Lib.hid batched_any
  have HS := Lib.hid hs
  have HMM := Lib.hid hmm
  by_cases h20 : 20000 < len2
  · clear hln2 hby hy hcap hmax hni hlen1 hops hc1 hmx1 w0 hs hmm
    go_enter Try.func3, Try.ntmps3
    go_wp2_with fail
    refine (HBT.out _).mono ?_
    rintro e W1 ⟨rfl, hb⟩
    have HB1 := Lib.hid hb
    clear hb
    go_wp2_with fail
    go_ret
    exact ⟨rfl, HB1.out⟩
  · have HR := Lib.hid (Rw.of hln2 hby hcap hni)
    have HY := Lib.hid hy
    have HLN2 := Lib.hid hln2
    have HBY := Lib.hid hby
    have HNI := Lib.hid hni
    have HOPS := Lib.hid hops
    have HL1 := Lib.hid hlen1
    have HR1 := Lib.hid (rDocEncode_any seq hs w a1 len1 cap1 z1 hops hlen1 hmm)
    have HSZ : Hid (lb.length ≤ 20000) := Lib.hid (by omega)
    have HNS : Hid (natsOf (strOf lb) = lb) := Lib.hid (natsOf_strOf' hy)
    clear hln2 hby hy hcap hmax hni hlen1 hops hc1 hmx1 w0 hs hmm
    go_enter Try.func3, Try.ntmps3
    go_wp2_with fail
    refine HR1.out.mono ?_
    rintro e W1 ⟨rfl, hb⟩
    have HB1 := Lib.hid hb
    have HE1 := Lib.hid (encode_any seq HS.out W1 a1 len1 cap1 z1 (HOPS.out.keep HB1.out) HL1.out HMM.out)
    clear hb HR1
    go_wp2_with fail
    refine HE1.out.mono ?_
    rintro e W2 hE
    obtain ⟨ay, cy, rfl, yb, yn, hb⟩ := encV_row hE
    have HB2 := Lib.hid (HB1.out.trans (hb.mono HB1.out.size))
    have HYB := Lib.hid yb
    have HYN := Lib.hid yn
    have hcv := conv_bytes (HBY.out.keep HB2.out) HY.out HNI.out cap2 len2 HLN2.out
    have HRD := Lib.hid (rDocDecode_any (strOf lb) (by rw [strOf_size]; have := HSZ.out; omega) W2)
    rw [HNS.out] at HRD
    clear hE hb HE1 yb yn
    go_wp2_with fail
    refine HRD.out.mono ?_
    rintro e W3 ⟨hb3, hd3⟩
    have HB3 := Lib.hid (HB2.out.trans (hb3.mono HB2.out.size))
    have HB23 := Lib.hid hb3
    have HXB := Lib.hid (encR_byte seq z1)
    cases hdo : decO lb with
    | some p =>
      obtain ⟨n, L⟩ := p
      obtain ⟨ad, cd, rfl, ho⟩ : ∃ ad cd, e = .returned (.tuple #[.int .i64 n, .slice ad L.length cd, .int .i64 0]) ∧ OpsAt W3 ad L := by
        rcases hd3 with ⟨n', L', a, c, h1, h2, h3⟩ | ⟨h1, _⟩
        · rw [hdo] at h1; cases h1; exact ⟨a, c, h2, h3⟩
        · rw [hdo] at h1; cases h1
      have HO3 := Lib.hid ho
      have HD := Lib.hid (decode_some (HR.out.up HB3.out HB3.out.size) HY.out (by have := HSZ.out; omega) hdo)
      have hL200 : L.length ≤ 200 := (chk_zero (decO_inv HY.out hdo).1).1
      clear hdo ho hd3 hb3 hcv HRD
      go_wp2_with fail
      refine HD.out.mono ?_
      rintro e W4 ⟨ae, rfl, ho4, -, hb4⟩
      have HB4 := Lib.hid (HB3.out.trans (hb4.mono HB3.out.size))
      have HB24 := Lib.hid (HB23.out.trans (hb4.mono HB23.out.size))
      have HB34 := Lib.hid hb4
      have HO4 := Lib.hid ho4
      clear ho4 hb4 HD
      obtain ⟨nL, hnL⟩ : ∃ nL, L.length = nL := ⟨_, rfl⟩
      rw [hnL] at hL200 ⊢
      have HNL := Lib.hid hnL
      clear hnL
      go_wp2_with fail
      refine (HBT.out _).mono ?_
      rintro e W5 ⟨rfl, hb⟩
      have HB5 := Lib.hid (HB4.out.trans (hb.mono HB4.out.size))
      have HB25 := Lib.hid (HB24.out.trans (hb.mono HB24.out.size))
      have HB35 := Lib.hid (HB34.out.trans (hb.mono HB34.out.size))
      have HB45 := Lib.hid hb
      have hcv5 := conv_bytes (HYB.out.keep HB25.out) HXB.out HYN.out cy (encR seq z1).length rfl
      have hss : ((strOf (encR seq z1)).toList == (strOf (encR seq z1)).toList) = true := by simp
      have HCH := Lib.hid (check_any seq HS.out W5 a1 len1 cap1 z1 (HOPS.out.keep HB5.out) HL1.out HMM.out)
      have hcc : (chkI seq z1 == chkI seq z1) = true := by simp
      have hnn : (n == n) = true := by simp
      generalize strOf (encR seq z1) = SE at *
      generalize (encR seq z1).length = ny at *
      generalize chkI seq z1 = c at *
      clear hb
      go_wp2_with fail
      refine HCH.out.mono ?_
      rintro e W6 ⟨rfl, hb⟩
      have HB6 := Lib.hid (HB5.out.trans (hb.mono HB5.out.size))
      have hro := rOps_any W6 ad ae nL nL cd nL L L (HO3.out.keep (HB35.out.trans (hb.mono HB35.out.size))) (HO4.out.keep (HB45.out.trans (hb.mono HB45.out.size))) HNL.out HNL.out (by omega) (by omega)
      rw [opsB_self] at hro
      have HRO := Lib.hid hro
      clear hb hro HCH hcv5 hss
      go_wp2_with fail
      refine HRO.out.mono ?_
      rintro e W7 ⟨rfl, q, rfl⟩
      have HB7 : Hid (Below w.heap.size w (W6.drewN q)) := Lib.hid (HB6.out.trans (below_drewN _ _ _))
      clear HRO
      go_wp2_with fail
      go_ret
      exact ⟨rfl, HB7.out⟩
    | none =>
      obtain rfl : e = .returned (.tuple #[.int .i64 0, .slice none 0 0, .int .i64 2]) := by
        rcases hd3 with ⟨n', L', a, c, h1, h2, h3⟩ | ⟨_, h1⟩
        · rw [hdo] at h1; cases h1
        · exact h1
      have HD := Lib.hid (decode_none (HR.out.up HB3.out HB3.out.size) HY.out (by have := HSZ.out; omega) hdo)
      clear hdo hd3 hb3 hcv HRD
      go_wp2_with fail
      refine HD.out.mono ?_
      rintro e W4 ⟨rfl, hb4⟩
      have HB4 := Lib.hid (HB3.out.trans (hb4.mono HB3.out.size))
      have HB24 := Lib.hid (HB23.out.trans (hb4.mono HB23.out.size))
      clear hb4 HD
      go_wp2_with fail
      refine (HBT.out _).mono ?_
      rintro e W5 ⟨rfl, hb⟩
      have HB5 := Lib.hid (HB4.out.trans (hb.mono HB4.out.size))
      have HB25 := Lib.hid (HB24.out.trans (hb.mono HB24.out.size))
      have hcv5 := conv_bytes (HYB.out.keep HB25.out) HXB.out HYN.out cy (encR seq z1).length rfl
      have hss : ((strOf (encR seq z1)).toList == (strOf (encR seq z1)).toList) = true := by simp
      have HCH := Lib.hid (check_any seq HS.out W5 a1 len1 cap1 z1 (HOPS.out.keep HB5.out) HL1.out HMM.out)
      have hcc : (chkI seq z1 == chkI seq z1) = true := by simp
      generalize strOf (encR seq z1) = SE at *
      generalize (encR seq z1).length = ny at *
      generalize chkI seq z1 = c at *
      clear hb
      go_wp2_with fail
      refine HCH.out.mono ?_
      rintro e W6 ⟨rfl, hb⟩
      have HB6 := Lib.hid (HB5.out.trans (hb.mono HB5.out.size))
      have hro := rOps_any W6 none none 0 0 0 0 [] [] (.inl rfl) (.inl rfl) rfl rfl (by omega) (by omega)
      rw [opsB_self] at hro
      have HRO := Lib.hid hro
      clear hb hro HCH hcv5 hss
      go_wp2_with fail
      refine HRO.out.mono ?_
      rintro e W7 ⟨rfl, q, rfl⟩
      have HB7 : Hid (Below w.heap.size w (W6.drewN q)) := Lib.hid (HB6.out.trans (below_drewN _ _ _))
      clear HRO
      go_wp2_with fail
      go_ret
      exact ⟨rfl, HB7.out⟩
end batchBytes
end Go.Proofs.Ythpcgdgahlcblaa
