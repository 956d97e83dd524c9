/-
  The law IkeySorts, walked.
-/
import Derived.Test.YtaeilfpaaogllaaIkDocU
namespace Go.Proofs.Ytaeilfpaaogllaa
open Go.RowKit

/-- Bytes that came in, with the reach. -/
def IsRowS (k : IntKind) (w : World) (a : Option Addr) (len cap : Nat) (zs : List Int) : Prop := IsRow k w a len cap zs ∧ cap ≤ 140737488351232
theorem sortR_byte' (k : ByteArray) (s d : Int) : ∀ x ∈ sortR k s d, x < 256 := by
  unfold sortR; split
  · exact sortL_byte k s d
  · simp
namespace ikeySorts
set_option maxRecDepth 100000 in
set_option maxHeartbeats 800000 in
theorem walk (k : ByteArray) (s d : Int) (a1 : Option Addr) (len1 cap1 : Nat) (z1 : List Int) (w : World) (_f0 : k.size ≤ maxLen ∧ (Lit.int .i64 s).wf = true ∧ (Lit.int .i64 d).wf = true) (w1 : IsRowS .u8 w a1 len1 cap1 z1) :
    Calls Try.prog 4 #[verV k s d, .slice a1 len1 cap1] w fun e w' => e = .returned (.bool true) ∧ Below w.heap.size w w' := by
  obtain ⟨l, rfl, hl, hb, h1, -, hnil⟩ := w1.1.byt
  have hm : l.length ≤ 140737488351232 := Nat.le_trans h1 w1.2
  clear w1
  have HX : Hid (∀ wx, Calls Try.prog 17 #[verV k s d] wx (DocS wx (sortR k s d) (chkI k s d))) := Lib.hid (docSort_any k s d)
  have HS : Hid (∀ wx, Calls Try.prog 18 #[verV k s d] wx (FreshE wx (sortR k s d) (chkI k s d))) := Lib.hid (sortable_any k s d)
  have HW : Hid (∀ wx, Calls Try.prog 19 #[.string (strOf l)] wx fun e w' => e = .returned (verT (unsV l)) ∧ Below wx.heap.size wx w') := Lib.hid (fun wx => by
    have := docUns_any (strOf l) (by rw [strOf_size]; exact hm) wx
    rwa [natsOf_strOf hb] at this)
  have HU : Hid (∀ wx, Below w.heap.size w wx → Calls Try.prog 20 #[.slice a1 l.length cap1] wx fun e w' => e = .returned (verT (unsV l)) ∧ Below wx.heap.size wx w') := Lib.hid (fun wx hx => unsort_any wx a1 cap1 l.length l rfl (hl.keep hx) hb hnil h1 hm)
  have HC : Hid (∀ wx, Below w.heap.size w wx → (convert 24 9 (.slice a1 l.length cap1)).run Try.prog wx = .ok (.string (strOf l)) wx) := Lib.hid (fun wx hx => conv_bytes (hl.keep hx) hb hnil cap1 l.length rfl)
  clear hl hb hnil
  unfold verV at *
  have HV0 := Lib.hid (verAt_new w k s d 23)
  generalize unsV l = r at *
  obtain ⟨r0, r1, r2, r3⟩ := r
  unfold verT at *
  simp only at HW HU
  go_enter Try.func4, Try.ntmps4
  go_wp2_with fail
  refine (HX.out _).mono ?_
  rintro e w2 ⟨rfl, hb2⟩
  have V2 := Lib.hid (HV0.out.keep hb2)
  have B2 : Hid (Below w.heap.size w w2) := Lib.hid ((bel1 _ _).trans (hb2.mono (by simp)))
  clear hb2 HV0 HX
  obtain ⟨x0, x1, x2, -⟩ := V2.out
  go_wp2_with fail
  refine (HS.out _).mono ?_
  rintro e w3 hF3
  obtain ⟨ay, cy, rfl, -, hb3, -, -, hcv3⟩ := hF3.conv (sortR_byte' _ _ _)
  have B3 := Lib.hid (B2.out.trans (hb3.mono B2.out.size))
  have HCV := Lib.hid hcv3
  clear hF3 hb3 x0 x1 x2 V2 B2 HS hcv3
  generalize (sortR k s d).length = ny at *
  generalize strOf (sortR k s d) = SY at *
  generalize chkI k s d = E at *
  have hcb := HC.out w3 B3.out
  go_wp2_with fail
  refine (HW.out _).mono ?_
  rintro e w4 ⟨rfl, hb4⟩
  have B4 := Lib.hid (B3.out.trans (hb4.mono B3.out.size))
  have H34 := Lib.hid hb4
  clear hb4 hcb HW
  go_wp2_with fail
  have BU : Hid (Below w.heap.size w (w4.alloc (.cells #[.string r0, .int .i64 r1, .int .i64 r2] 23))) := Lib.hid (B4.out.alloc B4.out.size _)
  have P4 := Lib.hid (verAt_new w4 r0 r1 r2 23)
  have H4a : Hid (Below w3.heap.size w3 (w4.alloc (.cells #[.string r0, .int .i64 r1, .int .i64 r2] 23))) := Lib.hid (H34.out.alloc H34.out.size _)
  refine (HU.out _ BU.out).mono ?_
  rintro e w5 ⟨rfl, hb5⟩
  have B5 := Lib.hid (BU.out.trans (hb5.mono BU.out.size))
  have P5 := Lib.hid (P4.out.keep hb5)
  have H5 := Lib.hid (H4a.out.trans (hb5.mono H4a.out.size))
  clear hb5 BU P4 H4a B4 H34 HU
  generalize w4.heap.size = q4 at *
  have Q5 := Lib.hid (verAt_new w5 r0 r1 r2 23)
  have P6 := Lib.hid (P5.out.keep (bel1 w5 (.cells #[.string r0, .int .i64 r1, .int .i64 r2] 23)))
  have H6 : Hid (Below w3.heap.size w3 (w5.alloc (.cells #[.string r0, .int .i64 r1, .int .i64 r2] 23))) := Lib.hid (H5.out.alloc H5.out.size _)
  have B6 : Hid (Below w.heap.size w (w5.alloc (.cells #[.string r0, .int .i64 r1, .int .i64 r2] 23))) := Lib.hid (B5.out.alloc B5.out.size _)
  go_wp2_with fail
  refine (keyed_any _).mono ?_
  rintro e w7 ⟨rfl, hb7⟩
  obtain ⟨x0, x1, x2, -⟩ := P6.out.keep hb7
  obtain ⟨y0, y1, y2, -⟩ := Q5.out.keep hb7
  have hcv := HCV.out w7 (H6.out.trans (hb7.mono H6.out.size))
  have B7 := Lib.hid (B6.out.trans (hb7.mono B6.out.size))
  clear hb7 B5 B6 H5 H6 P5 P6 Q5 HCV
  generalize w5.heap.size = q5 at *
  have hvv := run_ver_eq w7 r0 r0 r1 r2 r1 r2
  unfold verV at hvv
  rw [show sameV r0 r1 r2 r0 r1 r2 = true from decide_eq_true ⟨rfl, rfl, rfl⟩] at hvv
  have hs1 : (SY.toList == SY.toList) = true := by simp
  have hs2 : (E == E) = true := by simp
  have hs3 : (r3 == r3) = true := by simp
  go_wp2
  go_ret
  exact ⟨rfl, B7.out⟩
end ikeySorts
end Go.Proofs.Ytaeilfpaaogllaa
