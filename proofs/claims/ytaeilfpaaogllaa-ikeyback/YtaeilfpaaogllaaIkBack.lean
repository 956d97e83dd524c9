/-
  The law IkeyBack, walked.
-/
import Derived.Test.YtaeilfpaaogllaaIkUns
import Derived.Test.YtaeilfpaaogllaaIkOrd
namespace Go.Proofs.Ytaeilfpaaogllaa
open Go.RowKit

/-- Bytes that came in, with the reach. -/
def IsRowS (k : IntKind) (w : World) (a : Option Addr) (len cap : Nat) (zs : List Int) : Prop := IsRow k w a len cap zs ∧ cap ≤ 140737488351232
namespace ikeyBack
set_option maxRecDepth 100000 in
set_option maxHeartbeats 800000 in
theorem walk (k : ByteArray) (s d : Int) (a1 : Option Addr) (len1 cap1 : Nat) (z1 : List Int) (w : World) (_f0 : k.size ≤ maxLen ∧ (Lit.int .i64 s).wf = true ∧ (Lit.int .i64 d).wf = true) (w1 : IsRowS .u8 w a1 len1 cap1 z1) :
    Calls Try.prog 6 #[verV k s d, .slice a1 len1 cap1] w fun e w' => e = .returned (.bool true) ∧ Below w.heap.size w w' := by
  obtain ⟨l, rfl, hl, hb, h1, -, hnil⟩ := w1.1.byt
  have hm : l.length ≤ 140737488351232 := Nat.le_trans h1 w1.2
  clear w1
  have HE : Hid (∀ wx, Calls Try.prog 11 #[verV k s d] wx (FreshE wx (encR k s d) (chkI k s d))) := Lib.hid (encode_any k s d)
  have HS : Hid (∀ wx, Calls Try.prog 18 #[verV k s d] wx (FreshE wx (sortR k s d) (chkI k s d))) := Lib.hid (sortable_any k s d)
  have HD : Hid (∀ wx, Below w.heap.size w wx → Calls Try.prog 13 #[.slice a1 l.length cap1] wx fun e w' => e = .returned (verT (decV l)) ∧ Below wx.heap.size wx w') := Lib.hid (fun wx hx => decode_any wx a1 cap1 l.length l rfl (hl.keep hx) hb hnil h1 hm)
  have HU : Hid (∀ wx, Below w.heap.size w wx → Calls Try.prog 20 #[.slice a1 l.length cap1] wx fun e w' => e = .returned (verT (unsV l)) ∧ Below wx.heap.size wx w') := Lib.hid (fun wx hx => unsort_any wx a1 cap1 l.length l rfl (hl.keep hx) hb hnil h1 hm)
  have HC : Hid (∀ wx, Below w.heap.size w wx → (convert 24 9 (.slice a1 l.length cap1)).run Try.prog wx = .ok (.string (strOf l)) wx) := Lib.hid (fun wx hx => conv_bytes (hl.keep hx) hb hnil cap1 l.length rfl)
  have HLB := Lib.hid hb
  have hDcase : (∃ r0 r1 r2, decV l = (r0, r1, r2, 0) ∧ okV r0 r1 r2 ∧ ∀ wx, Calls Try.prog 11 #[verV r0 r1 r2] wx (FreshE wx l 0)) ∨ decV l = (⟨#[]⟩, 0, 0, 2) := by
    rcases dec_code l with h | h
    · obtain ⟨g1, g2⟩ := dec_inv hb h
      refine .inl ⟨_, _, _, by rw [← h], g1, fun wx => ?_⟩
      have := encode_any (decV l).1 (decV l).2.1 (decV l).2.2.1 wx
      rwa [chk_yes g1, show encR (decV l).1 (decV l).2.1 (decV l).2.2.1 = encL (decV l).1 (decV l).2.1 (decV l).2.2.1 from if_pos g1, g2] at this
    · exact .inr h
  have hUcase : (∃ r0 r1 r2, unsV l = (r0, r1, r2, 0) ∧ okV r0 r1 r2 ∧ ∀ wx, Calls Try.prog 18 #[verV r0 r1 r2] wx (FreshE wx l 0)) ∨ unsV l = (⟨#[]⟩, 0, 0, 2) := by
    rcases uns_code l with h | h
    · obtain ⟨g1, g2⟩ := uns_inv hb h
      refine .inl ⟨_, _, _, by rw [← h], g1, fun wx => ?_⟩
      have := sortable_any (unsV l).1 (unsV l).2.1 (unsV l).2.2.1 wx
      rwa [chk_yes g1, show sortR (unsV l).1 (unsV l).2.1 (unsV l).2.2.1 = sortL (unsV l).1 (unsV l).2.1 (unsV l).2.2.1 from if_pos g1, g2] at this
    · exact .inr h
  clear hl hb hnil
  unfold verV at *
  have HV0 := Lib.hid (verAt_new w k s d 23)
  by_cases hok : okV k s d
  · have hchk := chk_yes hok
    rw [hchk, show encR k s d = encL k s d from if_pos hok] at HE
    rw [hchk, show sortR k s d = sortL k s d from if_pos hok] at HS
    have HX1 := Lib.hid (dec_enc hok)
    have HX2 := Lib.hid (uns_sort hok)
    clear hchk
    go_enter Try.func6, Try.ntmps6
    go_wp2_with fail
    refine (keyed_any _).mono ?_
    rintro e wk ⟨rfl, hbk⟩
    have HBk : Hid (Below w.heap.size w wk) := Lib.hid ((bel1 _ _).trans (hbk.mono (by simp)))
    have V1 := Lib.hid (HV0.out.keep hbk)
    clear hbk HV0
    obtain ⟨x0, x1, x2, -⟩ := V1.out
    go_wp2_with fail
    refine (HE.out _).mono ?_
    rintro e w2 hF2
    obtain ⟨ax, cx, rfl, hxl, hb2, hxb, hxn, -⟩ := hF2.conv (encL_byte _ _ _)
    have V2 := Lib.hid (V1.out.keep hb2)
    have B2 := Lib.hid (HBk.out.trans (hb2.mono HBk.out.size))
    have HDX : Hid (∀ wx, Below w2.heap.size w2 wx → Calls Try.prog 13 #[.slice ax (encL k s d).length cx] wx fun e w' => e = .returned (verT (k, s, d, 0)) ∧ Below wx.heap.size wx w') := Lib.hid (fun wx hx => by
      have := decode_any wx ax cx (encL k s d).length (encL k s d) rfl (hxb.keep hx) (encL_byte _ _ _) hxn hxl (by rw [encL_length]; have := hok.2.1; omega)
      rwa [HX1.out] at this)
    clear hF2 hxl hb2 hxb hxn x0 x1 x2 V1 HBk
    generalize (encL k s d).length = nx at *
    obtain ⟨x0, x1, x2, -⟩ := V2.out
    go_wp2_with fail
    refine (HS.out _).mono ?_
    rintro e w3 hF3
    obtain ⟨ay, cy, rfl, hyl, hb3, hyb, hyn, -⟩ := hF3.conv (sortL_byte _ _ _)
    have V3 := Lib.hid (V2.out.keep hb3)
    have B3 := Lib.hid (B2.out.trans (hb3.mono B2.out.size))
    have HDX3 : Hid (∀ wx, Below w3.heap.size w3 wx → Calls Try.prog 13 #[.slice ax nx cx] wx fun e w' => e = .returned (verT (k, s, d, 0)) ∧ Below wx.heap.size wx w') := Lib.hid (fun wx hx => HDX.out wx (hb3.trans (hx.mono hb3.size)))
    have HUX3 : Hid (∀ wx, Below w3.heap.size w3 wx → Calls Try.prog 20 #[.slice ay (sortL k s d).length cy] wx fun e w' => e = .returned (verT (k, s, d, 0)) ∧ Below wx.heap.size wx w') := Lib.hid (fun wx hx => by
      have := unsort_any wx ay cy (sortL k s d).length (sortL k s d) rfl (hyb.keep hx) (sortL_byte _ _ _) hyn hyl (by have := sortL_length k s d; have := hok.2.1; omega)
      rwa [HX2.out] at this)
    clear hF3 hyl hb3 hyb hyn x0 x1 x2 V2 B2 HDX HX1 HX2 hok
    generalize (sortL k s d).length = ny at *
    obtain ⟨x0, x1, x2, -⟩ := V3.out
    unfold verT at HDX3 HUX3
    go_wp2_with fail
    refine (HDX3.out _ (Below.refl _ _)).mono ?_
    rintro e w4 ⟨rfl, hb4⟩
    have V4 := Lib.hid (V3.out.keep hb4)
    have B4 := Lib.hid (B3.out.trans (hb4.mono B3.out.size))
    have H34 := Lib.hid hb4
    clear hb4 x0 x1 x2 V3
    obtain ⟨x0, x1, x2, -⟩ := V4.out
    go_wp2_with fail
    refine (HUX3.out _ (H34.out.alloc H34.out.size _)).mono ?_
    rintro e w5 ⟨rfl, hb5⟩
    have V5 := Lib.hid ((V4.out.keep (bel1 _ _)).keep hb5)
    have U5 := Lib.hid ((verAt_new w4 k s d 23).keep hb5)
    have B5 : Hid (Below w.heap.size w w5) := Lib.hid ((B4.out.alloc B4.out.size _).trans (hb5.mono (by have := B4.out.size; simp; omega)))
    clear hb5 x0 x1 x2 V4 H34 HDX3 HUX3 B3
    obtain ⟨x0, x1, x2, hx5⟩ := V5.out
    obtain ⟨y0, y1, y2, hy5⟩ := U5.out
    have W5 := Lib.hid (bel1 w5 (.cells #[.string k, .int .i64 s, .int .i64 d] 23))
    have x0' := (W5.out.cell (p := ⟨w.heap.size, 0, none⟩) hx5).trans x0
    have x1' := (W5.out.cell (p := ⟨w.heap.size, 1, none⟩) hx5).trans x1
    have x2' := (W5.out.cell (p := ⟨w.heap.size, 2, none⟩) hx5).trans x2
    have y0' := (W5.out.cell (p := ⟨w4.heap.size, 0, none⟩) hy5).trans y0
    have y1' := (W5.out.cell (p := ⟨w4.heap.size, 1, none⟩) hy5).trans y1
    have y2' := (W5.out.cell (p := ⟨w4.heap.size, 2, none⟩) hy5).trans y2
    go_wp2_with fail
    have BD : Hid (Below w.heap.size w (w5.alloc (.cells #[.string k, .int .i64 s, .int .i64 d] 23))) := Lib.hid (B5.out.alloc B5.out.size _)
    clear x0 x1 x2 y0 y1 y2 x0' x1' x2' y0' y1' y2' V5 U5 W5 hx5 hy5
    refine (HD.out _ BD.out).mono ?_
    rintro e w6 ⟨rfl, hb6⟩
    have B6 := Lib.hid (BD.out.trans (hb6.mono BD.out.size))
    clear hb6
    rcases hDcase with ⟨r0, r1, r2, hr, hor, hen⟩ | hr
    · rw [hr]
      unfold verT
      simp only
      go_wp2_with fail
      refine (hen _).mono ?_
      rintro e w7 hF7
      obtain ⟨av7, cv7, rfl, -, hb7, -, -, hcv7⟩ := hF7.conv HLB.out
      have hca7 := hcv7 w7 (Below.refl _ _)
      have BU : Hid (Below w.heap.size w w7) := Lib.hid ((B6.out.alloc B6.out.size _).trans (hb7.mono (by have := B6.out.size; simp; omega)))
      have hcb7 := HC.out w7 BU.out
      clear hF7 hb7 hcv7 hen
      go_wp2_with fail
      clear hca7 hcb7
      refine (HU.out _ BU.out).mono ?_
      rintro e w8 ⟨rfl, hb8⟩
      have B8 := Lib.hid (BU.out.trans (hb8.mono BU.out.size))
      clear hb8
      rcases hUcase with ⟨t0, t1, t2, ht, hot, hst⟩ | ht
      · rw [ht]
        unfold verT
        simp only
        go_wp2_with fail
        refine (hst _).mono ?_
        rintro e w9 hF9
        obtain ⟨av, cv, rfl, -, hb9, -, -, hcv9⟩ := hF9.conv HLB.out
        have hca := hcv9 w9 (Below.refl _ _)
        have B9 : Hid (Below w.heap.size w w9) := Lib.hid ((B8.out.alloc B8.out.size _).trans (hb9.mono (by have := B8.out.size; simp; omega)))
        have hcb := HC.out w9 B9.out
        clear hF9 hb9 hcv9 hst
        go_wp2
        go_ret
        exact ⟨rfl, B9.out⟩
      · rw [ht]
        unfold verT
        simp only
        go_wp2
        go_ret
        exact ⟨rfl, B8.out.alloc B8.out.size _⟩
    · rw [hr]
      unfold verT
      simp only
      go_wp2_with fail
      have BU : Hid (Below w.heap.size w (w6.alloc (.cells #[.string ⟨#[]⟩, .int .i64 0, .int .i64 0] 23))) := Lib.hid (B6.out.alloc B6.out.size _)
      refine (HU.out _ BU.out).mono ?_
      rintro e w8 ⟨rfl, hb8⟩
      have B8 := Lib.hid (BU.out.trans (hb8.mono BU.out.size))
      clear hb8
      rcases hUcase with ⟨t0, t1, t2, ht, hot, hst⟩ | ht
      · rw [ht]
        unfold verT
        simp only
        go_wp2_with fail
        refine (hst _).mono ?_
        rintro e w9 hF9
        obtain ⟨av, cv, rfl, -, hb9, -, -, hcv9⟩ := hF9.conv HLB.out
        have hca := hcv9 w9 (Below.refl _ _)
        have B9 : Hid (Below w.heap.size w w9) := Lib.hid ((B8.out.alloc B8.out.size _).trans (hb9.mono (by have := B8.out.size; simp; omega)))
        have hcb := HC.out w9 B9.out
        clear hF9 hb9 hcv9 hst
        go_wp2
        go_ret
        exact ⟨rfl, B9.out⟩
      · rw [ht]
        unfold verT
        simp only
        go_wp2
        go_ret
        exact ⟨rfl, B8.out.alloc B8.out.size _⟩
  · have hchk := chk_no hok
    rw [hchk, show encR k s d = [] from if_neg hok] at HE
    rw [hchk, show sortR k s d = [] from if_neg hok] at HS
    clear hchk hok
    go_enter Try.func6, Try.ntmps6
    go_wp2_with fail
    refine (keyed_any _).mono ?_
    rintro e wk ⟨rfl, hbk⟩
    have HBk : Hid (Below w.heap.size w wk) := Lib.hid ((bel1 _ _).trans (hbk.mono (by simp)))
    have V1 := Lib.hid (HV0.out.keep hbk)
    clear hbk HV0
    obtain ⟨x0, x1, x2, -⟩ := V1.out
    go_wp2_with fail
    refine (HE.out _).mono ?_
    rintro e w2 hF2
    obtain ⟨ax, cx, rfl, -, hb2, -, -, -⟩ := hF2.conv (by simp)
    have V2 := Lib.hid (V1.out.keep hb2)
    have B2 := Lib.hid (HBk.out.trans (hb2.mono HBk.out.size))
    clear hF2 hb2 x0 x1 x2 V1 HBk
    obtain ⟨x0, x1, x2, -⟩ := V2.out
    go_wp2_with fail
    refine (HS.out _).mono ?_
    rintro e w3 hF3
    obtain ⟨ay, cy, rfl, -, hb3, -, -, -⟩ := hF3.conv (by simp)
    have BD := Lib.hid (B2.out.trans (hb3.mono B2.out.size))
    clear hF3 hb3 x0 x1 x2 V2 B2
    go_wp2_with fail
    refine (HD.out _ BD.out).mono ?_
    rintro e w6 ⟨rfl, hb6⟩
    have B6 := Lib.hid (BD.out.trans (hb6.mono BD.out.size))
    clear hb6
    rcases hDcase with ⟨r0, r1, r2, hr, hor, hen⟩ | hr
    · rw [hr]
      unfold verT
      simp only
      go_wp2_with fail
      refine (hen _).mono ?_
      rintro e w7 hF7
      obtain ⟨av7, cv7, rfl, -, hb7, -, -, hcv7⟩ := hF7.conv HLB.out
      have hca7 := hcv7 w7 (Below.refl _ _)
      have BU : Hid (Below w.heap.size w w7) := Lib.hid ((B6.out.alloc B6.out.size _).trans (hb7.mono (by have := B6.out.size; simp; omega)))
      have hcb7 := HC.out w7 BU.out
      clear hF7 hb7 hcv7 hen
      go_wp2_with fail
      clear hca7 hcb7
      refine (HU.out _ BU.out).mono ?_
      rintro e w8 ⟨rfl, hb8⟩
      have B8 := Lib.hid (BU.out.trans (hb8.mono BU.out.size))
      clear hb8
      rcases hUcase with ⟨t0, t1, t2, ht, hot, hst⟩ | ht
      · rw [ht]
        unfold verT
        simp only
        go_wp2_with fail
        refine (hst _).mono ?_
        rintro e w9 hF9
        obtain ⟨av, cv, rfl, -, hb9, -, -, hcv9⟩ := hF9.conv HLB.out
        have hca := hcv9 w9 (Below.refl _ _)
        have B9 : Hid (Below w.heap.size w w9) := Lib.hid ((B8.out.alloc B8.out.size _).trans (hb9.mono (by have := B8.out.size; simp; omega)))
        have hcb := HC.out w9 B9.out
        clear hF9 hb9 hcv9 hst
        go_wp2
        go_ret
        exact ⟨rfl, B9.out⟩
      · rw [ht]
        unfold verT
        simp only
        go_wp2
        go_ret
        exact ⟨rfl, B8.out.alloc B8.out.size _⟩
    · rw [hr]
      unfold verT
      simp only
      go_wp2_with fail
      have BU : Hid (Below w.heap.size w (w6.alloc (.cells #[.string ⟨#[]⟩, .int .i64 0, .int .i64 0] 23))) := Lib.hid (B6.out.alloc B6.out.size _)
      refine (HU.out _ BU.out).mono ?_
      rintro e w8 ⟨rfl, hb8⟩
      have B8 := Lib.hid (BU.out.trans (hb8.mono BU.out.size))
      clear hb8
      rcases hUcase with ⟨t0, t1, t2, ht, hot, hst⟩ | ht
      · rw [ht]
        unfold verT
        simp only
        go_wp2_with fail
        refine (hst _).mono ?_
        rintro e w9 hF9
        obtain ⟨av, cv, rfl, -, hb9, -, -, hcv9⟩ := hF9.conv HLB.out
        have hca := hcv9 w9 (Below.refl _ _)
        have B9 : Hid (Below w.heap.size w w9) := Lib.hid ((B8.out.alloc B8.out.size _).trans (hb9.mono (by have := B8.out.size; simp; omega)))
        have hcb := HC.out w9 B9.out
        clear hF9 hb9 hcv9 hst
        go_wp2
        go_ret
        exact ⟨rfl, B9.out⟩
      · rw [ht]
        unfold verT
        simp only
        go_wp2
        go_ret
        exact ⟨rfl, B8.out.alloc B8.out.size _⟩
end ikeyBack
end Go.Proofs.Ytaeilfpaaogllaa
