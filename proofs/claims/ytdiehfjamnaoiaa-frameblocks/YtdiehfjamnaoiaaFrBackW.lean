/-
  The law FrameBack, walked.
-/
import Derived.Test.YtdiehfjamnaoiaaFrStrs
namespace Go.Proofs.Ytdiehfjamnaoiaa
open Go.RowKit

theorem own_slice {w : World} {B n : Nat} {e : TypeId} {v : Value} {xs : List Value} (h : w.ownsRow B e 1 v n xs) : ∃ a c, v = .slice a n c := by
  rcases h.2 with ⟨rfl, rfl⟩ | ⟨g, cap, cur, rfl, _⟩
  · exact ⟨none, 0, rfl⟩
  · exact ⟨_, _, rfl⟩
theorem scan_all (hs : List (List Nat)) : Frm.scanR 0 (Frm.layL 0 hs) 0 [] false = (hs, (Frm.layL 0 hs).length) := by
  have h := Frm.scan_lay [] 0 hs
  rw [List.append_nil, Frm.scan_nil, List.append_nil, Nat.zero_add] at h
  exact h
namespace frameBack
set_option maxRecDepth 100000 in
set_option maxHeartbeats 2000000 in
theorem walk (a0 : Option Addr) (len0 cap0 : Nat) (z0 : List ByteArray) (W : World) (w0 : IsStrs W a0 len0 cap0 z0) : Calls Try.prog 5 #[.slice a0 len0 cap0] W fun e w' => e = .returned (.bool true) ∧ Below W.heap.size W w' := by
  obtain ⟨hzl, hz, hzc, hzs⟩ := w0
  have HL := Lib.hid (lay_any W a0 len0 cap0 z0 hz hzl hzs)
  clear hz hzs hzl
  go_enter Try.func5, Try.ntmps5
  go_wp2_with fail
  refine HL.out.mono ?_
  rintro e W1 ⟨hs, va, ve, vh, rfl, hle, hlaid, hb1⟩
  obtain ⟨aa, ca, rfl, hby, hno, hca⟩ := byt_of_own hlaid.all
  obtain ⟨ae, ce, rfl⟩ := own_slice hlaid.ends
  obtain ⟨ah, ch, rfl, hhl, hhs, hch⟩ := strs_of_own hlaid.had
  have hsm := hlaid.small
  have hct := hlaid.count
  have hsc := Scan_any W1 aa ca (Frm.layL 0 hs) hby (Frm.layL_byte 0 hs hlaid.byte) hca (by omega)
  rw [scan_all] at hsc
  obtain ⟨LL, hLL⟩ : ∃ LL, (Frm.layL 0 hs).length = LL := ⟨_, rfl⟩
  rw [hLL] at hsc hsm ⊢
  have HSC := Lib.hid hsc
  have HHS := Lib.hid hhs
  have HB1 := Lib.hid hb1
  have s1 := hb1.size
  clear hby hno hca hlaid hsc hb1 hhs hLL HL
  go_wp2_with fail
  refine HSC.out.mono ?_
  rintro e W2 ⟨v, rfl, ho, hb2⟩
  obtain ⟨al, cl, rfl, hll, hls, hcl⟩ := strs_of_own ho
  have HB2 := Lib.hid (HB1.out.trans (hb2.mono s1))
  have s2 := HB2.out.size
  have HH2 := Lib.hid (HHS.out.keep hb2)
  have HLS := Lib.hid hls
  have HF := Lib.hid (framed_any W2)
  have HML : Hid ((hs.map strOf).length = hs.length) := Lib.hid hll
  dsimp only
  clear ho hb2 hls HSC HHS hll hhl
  generalize hs.length = m at *
  generalize hs.map strOf = T at *
  have hmin := fun ts t wx => run_min2 (P := Try.prog) (w := wx) ts t (len0 : Int) (m : Int) (m : Int) (by omega)
  go_wp2_with fail
  refine HF.out.mono ?_
  rintro e W3 ⟨rfl, hb3⟩
  have hT := Texts_any W3 al ah m m cl ch T T (HLS.out.keep hb3) (HH2.out.keep hb3) HML.out HML.out (by omega) (by omega)
  rw [decide_eq_true rfl] at hT
  have HT := Lib.hid hT
  clear hT
  have HB3 := Lib.hid (HB2.out.trans (hb3.mono s2))
  have s3 := HB3.out.size
  clear hb3
  go_wp2_with fail
  refine HT.out.mono ?_
  rintro e W4 ⟨rfl, hb4⟩
  have HB4 := Lib.hid (HB3.out.trans (hb4.mono s3))
  clear hb4
  go_wp2
  go_ret
  exact ⟨rfl, HB4.out⟩
end frameBack
end Go.Proofs.Ytdiehfjamnaoiaa
