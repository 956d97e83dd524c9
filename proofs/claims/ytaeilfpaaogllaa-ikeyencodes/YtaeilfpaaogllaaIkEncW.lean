/-
  The law IkeyEncodes, walked.
-/
import Derived.Test.YtaeilfpaaogllaaIkDocD
namespace Go.Proofs.Ytaeilfpaaogllaa
open Go.RowKit

/-- Bytes that came in, with the reach. -/
def IsRowS (k : IntKind) (w : World) (a : Option Addr) (len cap : Nat) (zs : List Int) : Prop := IsRow k w a len cap zs ∧ cap ≤ 140737488351232
namespace ikeyEncodes
set_option maxRecDepth 100000 in
set_option maxHeartbeats 800000 in
theorem walk (k : ByteArray) (s d : Int) (a1 : Option Addr) (len1 cap1 : Nat) (z1 : List Int) (w : World) (_f0 : k.size ≤ maxLen ∧ (Lit.int .i64 s).wf = true ∧ (Lit.int .i64 d).wf = true) (w1 : IsRowS .u8 w a1 len1 cap1 z1) :
    Calls Try.prog 3 #[verV k s d, .slice a1 len1 cap1] w fun e w' => e = .returned (.bool true) ∧ Below w.heap.size w w' := by
  obtain ⟨l, rfl, hl, hb, h1, -, hnil⟩ := w1.1.byt
  have hm : l.length ≤ 140737488351232 := Nat.le_trans h1 w1.2
  clear w1
  have HX : Hid (∀ wx, Calls Try.prog 10 #[verV k s d] wx (DocS wx (encR k s d) (chkI k s d))) := Lib.hid (docEnc_any k s d)
  have HS : Hid (∀ wx, Calls Try.prog 11 #[verV k s d] wx (FreshE wx (encR k s d) (chkI k s d))) := Lib.hid (encode_any k s d)
  have HW : Hid (∀ wx, Calls Try.prog 12 #[.string (strOf l)] wx fun e w' => e = .returned (verT (decV l)) ∧ Below wx.heap.size wx w') := Lib.hid (fun wx => by
    have := docDec_any (strOf l) (by rw [strOf_size]; exact hm) wx
    rwa [natsOf_strOf hb] at this)
  have HU : Hid (∀ wx, Below w.heap.size w wx → Calls Try.prog 13 #[.slice a1 l.length cap1] wx fun e w' => e = .returned (verT (decV l)) ∧ Below wx.heap.size wx w') := Lib.hid (fun wx hx => decode_any wx a1 cap1 l.length l rfl (hl.keep hx) hb hnil h1 hm)
  have HC : Hid (∀ wx, Below w.heap.size w wx → (convert 24 9 (.slice a1 l.length cap1)).run Try.prog wx = .ok (.string (strOf l)) wx) := Lib.hid (fun wx hx => conv_bytes (hl.keep hx) hb hnil cap1 l.length rfl)
  clear hl hb hnil
  unfold verV at *
  have HV0 := Lib.hid (verAt_new w k s d 23)
  generalize decV l = r at *
  obtain ⟨r0, r1, r2, r3⟩ := r
  unfold verT at *
  simp only at HW HU
  go_enter Try.func3, Try.ntmps3
  go_wp2_with fail
  refine (HX.out _).mono ?_
  rintro e w2 ⟨rfl, hb2⟩
  have V2 := Lib.hid (HV0.out.keep hb2)
  have B2 : Hid (Below w.heap.size w w2) := Lib.hid ((bel1 _ _).trans (hb2.mono (by simp)))
  clear hb2 HV0 HX
  obtain ⟨x0, x1, x2, -⟩ := V2.out
  go_wp2_with fail
  refine (HS.out _).mono ?_
  rintro e w3 hF3
  obtain ⟨ay, cy, rfl, -, hb3, -, -, hcv3⟩ := hF3.conv (encR_byte _ _ _)
  have B3 := Lib.hid (B2.out.trans (hb3.mono B2.out.size))
  have HCV := Lib.hid hcv3
  have VV3 := Lib.hid (V2.out.keep hb3)
  clear hF3 hb3 x0 x1 x2 V2 B2 HS hcv3
  generalize (encR k s d).length = ny at *
  generalize strOf (encR k s d) = SY at *
  generalize hEE : chkI k s d = E at *
  have HEE := Lib.hid hEE
  clear hEE
  have hcb := HC.out w3 B3.out
  go_wp2_with fail
  refine (HW.out _).mono ?_
  rintro e w4 ⟨rfl, hb4⟩
  have B4 := Lib.hid (B3.out.trans (hb4.mono B3.out.size))
  have H34 := Lib.hid hb4
  clear hb4 hcb HW
  go_wp2_with fail
  have BU : Hid (Below w.heap.size w (w4.alloc (.cells #[.string r0, .int .i64 r1, .int .i64 r2] 23))) := Lib.hid (B4.out.alloc B4.out.size _)
  have P4 := Lib.hid (verAt_new w4 r0 r1 r2 23)
  have H4a : Hid (Below w3.heap.size w3 (w4.alloc (.cells #[.string r0, .int .i64 r1, .int .i64 r2] 23))) := Lib.hid (H34.out.alloc H34.out.size _)
  refine (HU.out _ BU.out).mono ?_
  rintro e w5 ⟨rfl, hb5⟩
  have B5 := Lib.hid (BU.out.trans (hb5.mono BU.out.size))
  have P5 := Lib.hid (P4.out.keep hb5)
  have H5 := Lib.hid (H4a.out.trans (hb5.mono H4a.out.size))
  clear hb5 BU P4 H4a B4 H34 HU
  generalize w4.heap.size = q4 at *
  have Q5 := Lib.hid (verAt_new w5 r0 r1 r2 23)
  have P6 := Lib.hid (P5.out.keep (bel1 w5 (.cells #[.string r0, .int .i64 r1, .int .i64 r2] 23)))
  have H6 : Hid (Below w3.heap.size w3 (w5.alloc (.cells #[.string r0, .int .i64 r1, .int .i64 r2] 23))) := Lib.hid (H5.out.alloc H5.out.size _)
  have B6 : Hid (Below w.heap.size w (w5.alloc (.cells #[.string r0, .int .i64 r1, .int .i64 r2] 23))) := Lib.hid (B5.out.alloc B5.out.size _)
  have V6 := Lib.hid (VV3.out.keep H6.out)
  clear B5 H5 P5 VV3
  have hE0 : chkI k s d = E := HEE.out
  go_wp2_with fail
  generalize hW6 : w5.alloc (.cells #[.string r0, .int .i64 r1, .int .i64 r2] 23) = w6 at *
  clear hW6
  generalize w5.heap.size = q5 at *
  have hs1 : (SY.toList == SY.toList) = true := by simp
  have hs2 : (E == E) = true := by simp
  have hs3 : (r3 == r3) = true := by simp
  have cK : Hid (∀ wx, Below w6.heap.size w6 wx → Calls Try.prog 14 #[] wx fun e w'' => e = .returned (.bool true) ∧ Below w6.heap.size w6 w'') := Lib.hid (fun wx hx => (keyed_any wx).mono fun _ _ ⟨he, hb⟩ => ⟨he, hx.trans (hb.mono hx.size)⟩)
  have HCV6 : Hid (∀ wx, Below w6.heap.size w6 wx → (convert 24 9 (.slice ay ny cy)).run Try.prog wx = .ok (.string SY) wx) := Lib.hid (fun wx hx => HCV.out wx (H6.out.trans (hx.mono H6.out.size)))
  have HEQ : Hid (∀ wx, (binOp .eql 23 (.agg #[.string r0, .int .i64 r1, .int .i64 r2]) (.agg #[.string r0, .int .i64 r1, .int .i64 r2])).run Try.prog wx = .ok (.bool true) wx) := Lib.hid (fun wx => by
    have h := run_ver_eq wx r0 r0 r1 r2 r1 r2
    unfold verV at h
    rwa [show sameV r0 r1 r2 r0 r1 r2 = true from decide_eq_true ⟨rfl, rfl, rfl⟩] at h)
  have cases : (okV k s d ∧ E = 0) ∨ (¬ okV k s d ∧ E = 1) := by
    by_cases h : okV k s d
    · exact .inl ⟨h, by rw [← hE0, chk_yes h]⟩
    · exact .inr ⟨h, by rw [← hE0, chk_no h]⟩
  clear hE0 HEE
  rcases cases with ⟨hok, rfl⟩ | ⟨hok, rfl⟩
  · have cC : Hid (∀ wx, Below w6.heap.size w6 wx → Calls Try.prog 15 #[.agg #[.string k, .int .i64 s, .int .i64 d]] wx fun e w'' => e = .returned (.int .i64 0) ∧ Below w6.heap.size w6 w'') := Lib.hid (fun wx hx => (check_any k s d wx).mono fun _ _ ⟨he, hb⟩ => ⟨by rw [he, chk_yes hok], hx.trans (hb.mono hx.size)⟩)
    have cR : Hid (∀ wx, Below w6.heap.size w6 wx → Calls Try.prog 16 #[.agg #[.string k, .int .i64 s, .int .i64 d]] wx fun e w'' => e = .returned (.bool true) ∧ Below w6.heap.size w6 w'') := Lib.hid (fun wx hx => (right_any k s d wx).mono fun _ _ ⟨he, hb⟩ => ⟨by rw [he, decide_eq_true hok], hx.trans (hb.mono hx.size)⟩)
    clear hok
    refine wp_region_grown (by kernel_rfl) (by kernel_rfl) ?_
    repeat (first
      | go_big_quiet_skip
      | (go_big_quiet_want; go_big_quiet_op; first
          | go_big_quiet_on
          | (apply Exists.intro; refine ⟨fun _ _ => rfl, ?_⟩; go_big_quiet_on)
          | (apply Exists.intro; refine ⟨fun _ hx => ⟨rfl, hx⟩, ?_⟩; go_big_quiet_on)
          | (refine ⟨.agg #[.string r0, .int .i64 r1, .int .i64 r2], by intro wx hx; have h := P6.out.keep hx; simp only [h.c0, h.c1, h.c2, Result.andThen]; exact ⟨trivial, trivial⟩, ?_⟩; go_big_quiet_on)
          | (refine ⟨.agg #[.string r0, .int .i64 r1, .int .i64 r2], by intro wx hx; have h := Q5.out.keep hx; simp only [h.c0, h.c1, h.c2, Result.andThen]; exact ⟨trivial, trivial⟩, ?_⟩; go_big_quiet_on)
          | (refine ⟨.agg #[.string k, .int .i64 s, .int .i64 d], by intro wx hx; have h := V6.out.keep hx; simp only [h.c0, h.c1, h.c2, Result.andThen]; exact ⟨trivial, trivial⟩, ?_⟩; go_big_quiet_on)
          | (apply Exists.intro; refine ⟨by intro wx hx; rw [HCV6.out wx hx]; exact ⟨rfl, rfl⟩, ?_⟩; go_big_quiet_on)
          | (apply Exists.intro; refine ⟨by with_reducible first | exact cK.out | exact cC.out | exact cR.out, ?_⟩; go_big_quiet_on)
          | (refine ⟨.bool true, ?_, ?_⟩; (intro wx hx; rw [HEQ.out wx]; exact ⟨rfl, rfl⟩); go_big_quiet_on)))
    refine wpQuiet_nil ?_
    rintro wz ⟨x, hx⟩
    have HZ : Hid (Below w6.heap.size w6 wz) := Lib.hid (hx ▸ x.2)
    clear hx x
    go_wp2
    go_ret
    exact ⟨rfl, B6.out.trans (HZ.out.mono B6.out.size)⟩
  · have cC : Hid (∀ wx, Below w6.heap.size w6 wx → Calls Try.prog 15 #[.agg #[.string k, .int .i64 s, .int .i64 d]] wx fun e w'' => e = .returned (.int .i64 1) ∧ Below w6.heap.size w6 w'') := Lib.hid (fun wx hx => (check_any k s d wx).mono fun _ _ ⟨he, hb⟩ => ⟨by rw [he, chk_no hok], hx.trans (hb.mono hx.size)⟩)
    have cR : Hid (∀ wx, Below w6.heap.size w6 wx → Calls Try.prog 16 #[.agg #[.string k, .int .i64 s, .int .i64 d]] wx fun e w'' => e = .returned (.bool false) ∧ Below w6.heap.size w6 w'') := Lib.hid (fun wx hx => (right_any k s d wx).mono fun _ _ ⟨he, hb⟩ => ⟨by rw [he, decide_eq_false hok], hx.trans (hb.mono hx.size)⟩)
    clear hok
    refine wp_region_grown (by kernel_rfl) (by kernel_rfl) ?_
    repeat (first
      | go_big_quiet_skip
      | (go_big_quiet_want; go_big_quiet_op; first
          | go_big_quiet_on
          | (apply Exists.intro; refine ⟨fun _ _ => rfl, ?_⟩; go_big_quiet_on)
          | (apply Exists.intro; refine ⟨fun _ hx => ⟨rfl, hx⟩, ?_⟩; go_big_quiet_on)
          | (refine ⟨.agg #[.string r0, .int .i64 r1, .int .i64 r2], by intro wx hx; have h := P6.out.keep hx; simp only [h.c0, h.c1, h.c2, Result.andThen]; exact ⟨trivial, trivial⟩, ?_⟩; go_big_quiet_on)
          | (refine ⟨.agg #[.string r0, .int .i64 r1, .int .i64 r2], by intro wx hx; have h := Q5.out.keep hx; simp only [h.c0, h.c1, h.c2, Result.andThen]; exact ⟨trivial, trivial⟩, ?_⟩; go_big_quiet_on)
          | (refine ⟨.agg #[.string k, .int .i64 s, .int .i64 d], by intro wx hx; have h := V6.out.keep hx; simp only [h.c0, h.c1, h.c2, Result.andThen]; exact ⟨trivial, trivial⟩, ?_⟩; go_big_quiet_on)
          | (apply Exists.intro; refine ⟨by intro wx hx; rw [HCV6.out wx hx]; exact ⟨rfl, rfl⟩, ?_⟩; go_big_quiet_on)
          | (apply Exists.intro; refine ⟨by with_reducible first | exact cK.out | exact cC.out | exact cR.out, ?_⟩; go_big_quiet_on)
          | (refine ⟨.bool true, ?_, ?_⟩; (intro wx hx; rw [HEQ.out wx]; exact ⟨rfl, rfl⟩); go_big_quiet_on)))
    refine wpQuiet_nil ?_
    rintro wz ⟨x, hx⟩
    have HZ : Hid (Below w6.heap.size w6 wz) := Lib.hid (hx ▸ x.2)
    clear hx x
    go_wp2
    go_ret
    exact ⟨rfl, B6.out.trans (HZ.out.mono B6.out.size)⟩
end ikeyEncodes
end Go.Proofs.Ytaeilfpaaogllaa
