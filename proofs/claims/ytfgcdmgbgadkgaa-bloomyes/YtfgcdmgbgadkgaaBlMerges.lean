/-
  The law BloomMerges, walked.
-/
import Derived.Test.YtfgcdmgbgadkgaaBlMrg
namespace Go.Proofs.Ytfgcdmgbgadkgaa
open Go.RowKit

theorem str_same (s : ByteArray) : (s.toList == s.toList) = true := by simp
theorem big2 (w : World) (a0 a1 : Option Addr) (len0 cap0 len1 cap1 : Nat) (key : ByteArray) (h : 2000 < len0 ∨ 2000 < len1) :
    Calls Try.prog 8 #[.slice a0 len0 cap0, .slice a1 len1 cap1, .string key] w fun e w' => e = .returned (.bool true) ∧ Below w.heap.size w w' := by
  by_cases h0 : 2000 < len0
  · clear h
    go_enter Try.func8, Try.ntmps8
    go_wp2_with fail
    refine (blooms_any _).mono ?_
    rintro e w1 ⟨rfl, hb1⟩
    have B1 := Lib.hid hb1
    clear hb1
    go_wp2_with fail
    refine (blooms_any _).mono ?_
    rintro e w2 ⟨rfl, hb2⟩
    have B2 := Lib.hid (B1.out.trans (hb2.mono B1.out.size))
    clear hb2
    go_wp2
    go_ret
    exact ⟨rfl, B2.out⟩
  · have h1 : 2000 < len1 := by omega
    clear h
    go_enter Try.func8, Try.ntmps8
    go_wp2_with fail
    refine (blooms_any _).mono ?_
    rintro e w1 ⟨rfl, hb1⟩
    have B1 := Lib.hid hb1
    clear hb1
    go_wp2_with fail
    refine (blooms_any _).mono ?_
    rintro e w2 ⟨rfl, hb2⟩
    have B2 := Lib.hid (B1.out.trans (hb2.mono B1.out.size))
    clear hb2
    go_wp2
    go_ret
    exact ⟨rfl, B2.out⟩
namespace bloomMerges
set_option maxRecDepth 100000 in
set_option maxHeartbeats 1600000 in
theorem walk (a0 : Option Addr) (len0 cap0 : Nat) (ss : List ByteArray) (a1 : Option Addr) (len1 cap1 : Nat) (tt : List ByteArray) (key : ByteArray) (w : World) (w0 : IsStrs w a0 len0 cap0 ss) (w1 : IsStrs w a1 len1 cap1 tt) (w2 : key.size ≤ maxLen) :
    Calls Try.prog 8 #[.slice a0 len0 cap0, .slice a1 len1 cap1, .string key] w fun e w' => e = .returned (.bool true) ∧ Below w.heap.size w w' := by
  by_cases hbig : 2000 < len0 ∨ 2000 < len1
  · exact big2 w a0 a1 len0 cap0 len1 cap1 key hbig
  obtain ⟨hn, hs, hcap, hsz⟩ := w0
  obtain ⟨hn', hs', hcap', hsz'⟩ := w1
  have hks : key.size ≤ 9223372036854775807 := by unfold maxLen at w2; omega
  obtain ⟨n, hnn⟩ : ∃ n, n = min len0 len1 := ⟨_, rfl⟩
  have hmin : ∀ ts t wx, (Builtin.min_ ts t #[.int .i64 (len0 : Int), .int .i64 (len1 : Int)]).run Try.prog wx = .ok (.int .i64 (n : Int)) wx := fun ts t wx => run_min2 ts t _ _ _ (by omega)
  have p1 := fun wx => run_part_strs (w := wx) (a := a0) len0 cap0 n (by omega)
  have p2 := fun wx => run_part_strs (w := wx) (a := a1) len1 cap1 n (by omega)
  have hs1 := hs.take cap0 n (by omega) (by omega)
  have hs2 := hs'.take cap1 n (by omega) (by omega)
  generalize part a0 cap0 0 = q0 at *
  generalize part a1 cap1 0 = q1 at *
  have HK1 : Hid (∀ wx, Below w.heap.size w wx → Calls Try.prog 14 #[.slice q0 n cap0, .int .i64 9] wx (FreshE wx (buildL ((ss.take n).map natsOf) 9) 0)) := Lib.hid (fun wx hx => by
    exact build_any wx q0 cap0 n (ss.take n) (by simp; omega) (hs1.keep hx) (fun s h => hsz s (List.mem_of_mem_take h)) (by omega) 9)
  have HK2 : Hid (∀ wx, Below w.heap.size w wx → Calls Try.prog 14 #[.slice q1 n cap1, .int .i64 9] wx (FreshE wx (buildL ((tt.take n).map natsOf) 9) 0)) := Lib.hid (fun wx hx => by
    exact build_any wx q1 cap1 n (tt.take n) (by simp; omega) (hs2.keep hx) (fun s h => hsz' s (List.mem_of_mem_take h)) (by omega) 9)
  have hl1 : ((ss.take n).map natsOf).length = n := by simp; omega
  have hl2 : ((tt.take n).map natsOf).length = n := by simp; omega
  have hf1 := build_form ((ss.take n).map natsOf) 9 (by omega) (by omega)
  have hf2 := build_form ((tt.take n).map natsOf) 9 (by omega) (by omega)
  obtain ⟨hll, hlc⟩ := builds_alike ((ss.take n).map natsOf) ((tt.take n).map natsOf) 9 (by omega)
  have hb1 := buildL_byte ((ss.take n).map natsOf) 9
  have hb2 := buildL_byte ((tt.take n).map natsOf) 9
  have hxl : (buildL ((ss.take n).map natsOf) 9).length ≤ 140737488351232 := by
    have h := sizOf_le n 9 (by omega) (by omega)
    rw [buildL_length, hl1]; omega
  generalize buildL ((ss.take n).map natsOf) 9 = x at *
  generalize buildL ((tt.take n).map natsOf) 9 = y at *
  have e1 := merge_ok hf1 hf2 hll hlc
  have e2 := merge_ok hf2 hf1 hll.symm hlc.symm
  have e3 := merge_ok hf1 hf1 rfl rfl
  rw [merge_comm y x hll.symm hlc.symm] at e2
  rw [merge_self] at e3
  have HMM := Lib.hid (fun h => may_merge x y h hf1 hf2 hll hlc)
  have hmb : ∀ c ∈ mergeL x y, c < 256 := mergeL_byte hb1 hb2
  have hml := mergeL_length x y
  have hyl : y.length ≤ 140737488351232 := by omega
  have HME : Hid (∀ wx (a a' : Option Addr) (c c' : Nat), Byt wx a x → Byt wx a' y → x.length ≤ c → y.length ≤ c' → Calls Try.prog 16 #[.slice a x.length c, .slice a' y.length c'] wx (FreshE wx (mergeL x y) 0) ∧ Calls Try.prog 16 #[.slice a' y.length c', .slice a x.length c] wx (FreshE wx (mergeL x y) 0) ∧ Calls Try.prog 16 #[.slice a x.length c, .slice a x.length c] wx (FreshE wx x 0)) := Lib.hid (fun wx a a' c c' h1 h2 g1 g2 => by
    have m1 := merge_any wx a a' c c' _ _ x y rfl h1 hb1 hxl rfl h2 hb2 hyl g2
    have m2 := merge_any wx a' a c' c _ _ y x rfl h2 hb2 hyl rfl h1 hb1 hxl g1
    have m3 := merge_any wx a a c c _ _ x x rfl h1 hb1 hxl rfl h1 hb1 hxl g1
    rw [e1.1, e1.2] at m1
    rw [e2.1, e2.2] at m2
    rw [e3.1, e3.2] at m3
    exact ⟨m1, m2, m3⟩)
  have HB1 := Lib.hid hb1
  have HB2 := Lib.hid hb2
  have HMB := Lib.hid hmb
  have HLL := Lib.hid hll
  have HML := Lib.hid hml
  have hq0 : decide ((2000 : Int) < (len0 : Int)) = false := by simp; omega
  have hq1 : decide ((2000 : Int) < (len1 : Int)) = false := by simp; omega
  clear hnn hs hs' hs1 hs2 hn hn' hsz hsz' hl1 hl2 hf1 hf2 hll hlc hb1 hb2 e1 e2 e3 hmb hml
  go_enter Try.func8, Try.ntmps8
  go_wp2_with fail
  refine (blooms_any _).mono ?_
  rintro e v1 ⟨rfl, hb1⟩
  have B1 := Lib.hid hb1
  clear hb1
  go_wp2_with fail
  refine (HK1.out _ B1.out).mono ?_
  rintro e v2 hF
  obtain ⟨ax, cx, rfl, hcx, hb2, hyx, -, hcvx⟩ := hF.conv HB1.out
  have B2 := Lib.hid (B1.out.trans (hb2.mono B1.out.size))
  clear hF hb2
  have X2 := Lib.hid hyx
  have XC := Lib.hid hcvx
  clear hyx hcvx
  go_wp2_with fail
  refine (HK2.out _ B2.out).mono ?_
  rintro e v3 hF
  obtain ⟨ay, cy, rfl, hcy, hb3, hyy, -, -⟩ := hF.conv HB2.out
  have B3 := Lib.hid (B2.out.trans (hb3.mono B2.out.size))
  have X3 := Lib.hid (X2.out.keep hb3)
  have D3 := Lib.hid hb3
  have Y3 := Lib.hid hyy
  clear hF hb3 hyy X2
  go_wp2_with fail
  refine ((HME.out _ _ _ _ _ X3.out Y3.out hcx hcy).1).mono ?_
  rintro e v4 hF
  obtain ⟨am, cm, rfl, hcm, hb4, hym, -, hcvm⟩ := hF.conv HMB.out
  have B4 := Lib.hid (B3.out.trans (hb4.mono B3.out.size))
  have D4 := Lib.hid (D3.out.trans (hb4.mono D3.out.size))
  have X4 := Lib.hid (X3.out.keep hb4)
  have Y4 := Lib.hid (Y3.out.keep hb4)
  have M4 := Lib.hid hym
  have MC := Lib.hid hcvm
  clear hF hb4 hym hcvm X3 Y3 D3
  go_wp2_with fail
  refine ((HME.out _ _ _ _ _ X4.out Y4.out hcx hcy).2.1).mono ?_
  rintro e v5 hF
  obtain ⟨ad, cd, rfl, hcd, hb5, -, -, hcvd⟩ := hF.conv HMB.out
  have B5 := Lib.hid (B4.out.trans (hb5.mono B4.out.size))
  have D5 := Lib.hid (D4.out.trans (hb5.mono D4.out.size))
  have E5 := Lib.hid hb5
  have X5 := Lib.hid (X4.out.keep hb5)
  have Y5 := Lib.hid (Y4.out.keep hb5)
  have M5 := Lib.hid (M4.out.keep hb5)
  have DC := Lib.hid hcvd
  clear hF hb5 hcvd X4 Y4 D4 M4
  go_wp2_with fail
  refine ((HME.out _ _ _ _ _ X5.out Y5.out hcx hcy).2.2).mono ?_
  rintro e v6 hF
  obtain ⟨asx, csx, rfl, hcs, hb6, -, -, hcvs⟩ := hF.conv HB1.out
  have B6 := Lib.hid (B5.out.trans (hb6.mono B5.out.size))
  have D6 := D5.out.trans (hb6.mono D5.out.size)
  have E6 := E5.out.trans (hb6.mono E5.out.size)
  have k1 := XC.out v6 D6
  have k2 := MC.out v6 E6
  have k3 := DC.out v6 hb6
  have k4 := hcvs v6 (Below.refl _ _)
  have X6 := X5.out.keep hb6
  have Y6 := Y5.out.keep hb6
  have M6 := M5.out.keep hb6
  have ss1 := str_same (strOf (mergeL x y))
  have ss2 := str_same (strOf x)
  have HMX : Hid (∀ wx, Below v6.heap.size v6 wx → Calls Try.prog 17 #[.slice ax x.length cx, .string key] wx fun e w' => e = .returned (.bool (mayB x (hashN (natsOf key)))) ∧ Below wx.heap.size wx w') := Lib.hid (fun wx h => may_any wx ax cx _ x rfl (X6.keep h) HB1.out hxl key hks)
  have HMY : Hid (∀ wx, Below v6.heap.size v6 wx → Calls Try.prog 17 #[.slice ay y.length cy, .string key] wx fun e w' => e = .returned (.bool (mayB y (hashN (natsOf key)))) ∧ Below wx.heap.size wx w') := Lib.hid (fun wx h => may_any wx ay cy _ y rfl (Y6.keep h) HB2.out hyl key hks)
  have HMC : Hid (∀ wx, Below v6.heap.size v6 wx → Calls Try.prog 17 #[.slice am (mergeL x y).length cm, .string key] wx fun e w' => e = .returned (.bool (mayB (mergeL x y) (hashN (natsOf key)))) ∧ Below wx.heap.size wx w') := Lib.hid (fun wx h => may_any wx am cm _ (mergeL x y) rfl (M6.keep h) HMB.out (by rw [HML.out]; exact hxl) key hks)
  clear hF hb6 hcvs X5 Y5 M5 D5 D6 E5 E6 X6 Y6 M6 HME XC MC DC
  have hmm := HMM.out (hashN (natsOf key))
  generalize strOf (mergeL x y) = SM at *
  generalize strOf x = SX at *
  generalize (mergeL x y).length = nm at *
  generalize x.length = nx at *
  generalize y.length = ny at *
  have hcase : (mayB x (hashN (natsOf key)) = true) ∨ (mayB x (hashN (natsOf key)) = false ∧ mayB y (hashN (natsOf key)) = true) ∨ (mayB x (hashN (natsOf key)) = false ∧ mayB y (hashN (natsOf key)) = false) := by
    cases mayB x (hashN (natsOf key)) <;> cases mayB y (hashN (natsOf key)) <;> simp
  rcases hcase with h1 | ⟨h1, h2⟩ | ⟨h1, h2⟩
  · have h3 := hmm (.inl h1)
    rw [h1] at HMX
    rw [h3] at HMC
    clear h1 h3 hmm
    go_wp2_with fail
    refine (HMX.out _ (Below.refl _ _)).mono ?_
    rintro e v7 ⟨rfl, hb7⟩
    have B7 := Lib.hid (B6.out.trans (hb7.mono B6.out.size))
    have D7 := Lib.hid hb7
    clear hb7
    go_wp2_with fail
    refine (HMC.out _ D7.out).mono ?_
    rintro e v8 ⟨rfl, hb8⟩
    have B8 := Lib.hid (B7.out.trans (hb8.mono B7.out.size))
    clear hb8
    go_wp2
    go_ret
    exact ⟨rfl, B8.out⟩
  · have h3 := hmm (.inr h2)
    rw [h1] at HMX
    rw [h2] at HMY
    rw [h3] at HMC
    clear h1 h2 h3 hmm
    go_wp2_with fail
    refine (HMX.out _ (Below.refl _ _)).mono ?_
    rintro e v7 ⟨rfl, hb7⟩
    have B7 := Lib.hid (B6.out.trans (hb7.mono B6.out.size))
    have D7 := Lib.hid hb7
    clear hb7
    go_wp2_with fail
    refine (HMY.out _ D7.out).mono ?_
    rintro e v8 ⟨rfl, hb8⟩
    have B8 := Lib.hid (B7.out.trans (hb8.mono B7.out.size))
    have D8 := Lib.hid (D7.out.trans (hb8.mono D7.out.size))
    clear hb8
    go_wp2_with fail
    refine (HMC.out _ D8.out).mono ?_
    rintro e v9 ⟨rfl, hb9⟩
    have B9 := Lib.hid (B8.out.trans (hb9.mono B8.out.size))
    clear hb9
    go_wp2
    go_ret
    exact ⟨rfl, B9.out⟩
  · rw [h1] at HMX
    rw [h2] at HMY
    clear h1 h2 hmm
    go_wp2_with fail
    refine (HMX.out _ (Below.refl _ _)).mono ?_
    rintro e v7 ⟨rfl, hb7⟩
    have B7 := Lib.hid (B6.out.trans (hb7.mono B6.out.size))
    have D7 := Lib.hid hb7
    clear hb7
    go_wp2_with fail
    refine (HMY.out _ D7.out).mono ?_
    rintro e v8 ⟨rfl, hb8⟩
    have B8 := Lib.hid (B7.out.trans (hb8.mono B7.out.size))
    clear hb8
    go_wp2
    go_ret
    exact ⟨rfl, B8.out⟩
end bloomMerges
end Go.Proofs.Ytfgcdmgbgadkgaa
