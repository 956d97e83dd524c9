/-
  The law BloomYes, walked.
-/
import Derived.Test.YtfgcdmgbgadkgaaBlMerges
namespace Go.Proofs.Ytfgcdmgbgadkgaa
open Go.RowKit

theorem big3 (w : World) (a0 a1 : Option Addr) (len0 cap0 len1 cap1 : Nat) (bits : Int) (h : 3000 < len0 ∨ 3000 < len1) :
    Calls Try.prog 6 #[.slice a0 len0 cap0, .slice a1 len1 cap1, .int .i64 bits] w fun e w' => e = .returned (.bool true) ∧ Below w.heap.size w w' := by
  by_cases h0 : 3000 < len0
  · clear h
    go_enter Try.func6, Try.ntmps6
    go_wp2_with fail
    refine (blooms_any _).mono ?_
    rintro e w1 ⟨rfl, hb1⟩
    have B1 := Lib.hid hb1
    clear hb1
    go_wp2_with fail
    refine (blooms_any _).mono ?_
    rintro e w2 ⟨rfl, hb2⟩
    have B2 := Lib.hid (B1.out.trans (hb2.mono B1.out.size))
    clear hb2
    go_wp2
    go_ret
    exact ⟨rfl, B2.out⟩
  · have h1 : 3000 < len1 := by omega
    clear h
    go_enter Try.func6, Try.ntmps6
    go_wp2_with fail
    refine (blooms_any _).mono ?_
    rintro e w1 ⟨rfl, hb1⟩
    have B1 := Lib.hid hb1
    clear hb1
    go_wp2_with fail
    refine (blooms_any _).mono ?_
    rintro e w2 ⟨rfl, hb2⟩
    have B2 := Lib.hid (B1.out.trans (hb2.mono B1.out.size))
    clear hb2
    go_wp2
    go_ret
    exact ⟨rfl, B2.out⟩
theorem bR (B : Nat) (ks : List (List Nat)) (h : 1 ≤ B ∧ B ≤ 64) : buildR ks (B : Int) = buildL ks B := by unfold buildR; rw [if_pos (by omega)]; rfl
theorem bE (B : Nat) (h : 1 ≤ B ∧ B ≤ 64) : buildE (B : Int) = 0 := by unfold buildE; rw [if_pos (by omega)]
namespace bloomYes
set_option maxRecDepth 100000 in
set_option maxHeartbeats 1600000 in
theorem walk (a0 : Option Addr) (len0 cap0 : Nat) (ss : List ByteArray) (a1 : Option Addr) (len1 cap1 : Nat) (tt : List ByteArray) (bits : Int) (w : World) (w0 : IsStrs w a0 len0 cap0 ss) (w1 : IsStrs w a1 len1 cap1 tt) (_w2 : (Lit.int .i64 bits).wf = true) :
    Calls Try.prog 6 #[.slice a0 len0 cap0, .slice a1 len1 cap1, .int .i64 bits] w fun e w' => e = .returned (.bool true) ∧ Below w.heap.size w w' := by
  by_cases hbig : 3000 < len0 ∨ 3000 < len1
  · exact big3 w a0 a1 len0 cap0 len1 cap1 bits hbig
  obtain ⟨hn, hs, hcap, hsz⟩ := w0
  obtain ⟨hn', hs', hcap', hsz'⟩ := w1
  have hv := bits_val bits
  have hBl := bitsOf_le bits
  generalize bitsOf bits = B at *
  obtain ⟨n, hnn⟩ : ∃ n, n = min len0 len1 := ⟨_, rfl⟩
  have hmin : ∀ ts t wx, (Builtin.min_ ts t #[.int .i64 (len0 : Int), .int .i64 (len1 : Int)]).run Try.prog wx = .ok (.int .i64 (n : Int)) wx := fun ts t wx => run_min2 ts t _ _ _ (by omega)
  have p1 := fun wx => run_part_strs (w := wx) (a := a0) len0 cap0 n (by omega)
  have p2 := fun wx => run_part_strs (w := wx) (a := a1) len1 cap1 n (by omega)
  have hs1 := hs.take cap0 n (by omega) (by omega)
  have hs2 := hs'.take cap1 n (by omega) (by omega)
  generalize part a0 cap0 0 = q0 at *
  generalize part a1 cap1 0 = q1 at *
  have HK1 : Hid (∀ wx, Below w.heap.size w wx → Calls Try.prog 14 #[.slice q0 n cap0, .int .i64 (B : Int)] wx (FreshE wx (buildL ((ss.take n).map natsOf) B) 0)) := Lib.hid (fun wx hx => by
    have h := build_any wx q0 cap0 n (ss.take n) (by simp; omega) (hs1.keep hx) (fun s h => hsz s (List.mem_of_mem_take h)) (by omega) (B : Int)
    rw [bR B _ hBl, bE B hBl] at h
    exact h)
  have HK2 : Hid (∀ wx, Below w.heap.size w wx → Calls Try.prog 14 #[.slice q1 n cap1, .int .i64 (B : Int)] wx (FreshE wx (buildL ((tt.take n).map natsOf) B) 0)) := Lib.hid (fun wx hx => by
    have h := build_any wx q1 cap1 n (tt.take n) (by simp; omega) (hs2.keep hx) (fun s h => hsz' s (List.mem_of_mem_take h)) (by omega) (B : Int)
    rw [bR B _ hBl, bE B hBl] at h
    exact h)
  have hl1 : ((ss.take n).map natsOf).length = n := by simp; omega
  have hl2 : ((tt.take n).map natsOf).length = n := by simp; omega
  have hf1 := build_form ((ss.take n).map natsOf) B (by omega) hBl.2
  have hf2 := build_form ((tt.take n).map natsOf) B (by omega) hBl.2
  obtain ⟨hll, hlc⟩ := builds_alike ((ss.take n).map natsOf) ((tt.take n).map natsOf) B (by omega)
  have hb1 := buildL_byte ((ss.take n).map natsOf) B
  have hb2 := buildL_byte ((tt.take n).map natsOf) B
  have hxl : (buildL ((ss.take n).map natsOf) B).length ≤ 140737488351232 := by
    have h := sizOf_le n B (by omega) hBl.2
    rw [buildL_length, hl1]; omega
  have HX1 := Lib.hid (fun k h => may_member ((ss.take n).map natsOf) B (by omega) hBl.2 k h)
  have HX2 := Lib.hid (fun k h => may_member ((tt.take n).map natsOf) B (by omega) hBl.2 k h)
  have HS1 := Lib.hid hs1
  have HS2 := Lib.hid hs2
  have HZ1 := Lib.hid (show ∀ s ∈ ss.take n, s.size ≤ 9223372036854775807 from fun s h => hsz s (List.mem_of_mem_take h))
  have HZ2 := Lib.hid (show ∀ s ∈ tt.take n, s.size ≤ 9223372036854775807 from fun s h => hsz' s (List.mem_of_mem_take h))
  have HL1 : Hid ((ss.take n).length = n) := Lib.hid (by simp; omega)
  have HL2 : Hid ((tt.take n).length = n) := Lib.hid (by simp; omega)
  generalize buildL ((ss.take n).map natsOf) B = x at *
  generalize buildL ((tt.take n).map natsOf) B = y at *
  have e1 := merge_ok hf1 hf2 hll hlc
  have e2 := merge_ok hf2 hf1 hll.symm hlc.symm
  have e3 := merge_ok hf1 hf1 rfl rfl
  rw [merge_comm y x hll.symm hlc.symm] at e2
  rw [merge_self] at e3
  have HMM := Lib.hid (fun h => may_merge x y h hf1 hf2 hll hlc)
  have hmb : ∀ c ∈ mergeL x y, c < 256 := mergeL_byte hb1 hb2
  have hml := mergeL_length x y
  have hyl : y.length ≤ 140737488351232 := by omega
  have HME : Hid (∀ wx (a a' : Option Addr) (c c' : Nat), Byt wx a x → Byt wx a' y → x.length ≤ c → y.length ≤ c' → Calls Try.prog 16 #[.slice a x.length c, .slice a' y.length c'] wx (FreshE wx (mergeL x y) 0) ∧ Calls Try.prog 16 #[.slice a' y.length c', .slice a x.length c] wx (FreshE wx (mergeL x y) 0) ∧ Calls Try.prog 16 #[.slice a x.length c, .slice a x.length c] wx (FreshE wx x 0)) := Lib.hid (fun wx a a' c c' h1 h2 g1 g2 => by
    have m1 := merge_any wx a a' c c' _ _ x y rfl h1 hb1 hxl rfl h2 hb2 hyl g2
    have m2 := merge_any wx a' a c' c _ _ y x rfl h2 hb2 hyl rfl h1 hb1 hxl g1
    have m3 := merge_any wx a a c c _ _ x x rfl h1 hb1 hxl rfl h1 hb1 hxl g1
    rw [e1.1, e1.2] at m1
    rw [e2.1, e2.2] at m2
    rw [e3.1, e3.2] at m3
    exact ⟨m1, m2, m3⟩)
  have HB1 := Lib.hid hb1
  have HB2 := Lib.hid hb2
  have HMB := Lib.hid hmb
  have HLL := Lib.hid hll
  have HML := Lib.hid hml
  have hq0 : decide ((3000 : Int) < (len0 : Int)) = false := by simp; omega
  have hq1 : decide ((3000 : Int) < (len1 : Int)) = false := by simp; omega
  have hn3 : n ≤ 3000 := by omega
  generalize ss.take n = s1 at *
  generalize tt.take n = s2 at *
  clear hnn hs hs' hs1 hs2 hn hn' hsz hsz' hl1 hl2 hf1 hf2 hll hlc hb1 hb2 e1 e2 e3 hmb hml
  go_enter Try.func6, Try.ntmps6
  go_wp2_with fail
  refine (blooms_any _).mono ?_
  rintro e v1 ⟨rfl, hb1⟩
  have B1 := Lib.hid hb1
  clear hb1
  go_wp2_with fail
  go_quiet (fail)
  have B1q := Lib.hid (B1.out.trans (below_drewN _ v1 nq))
  go_wp2_with fail
  refine (HK1.out _ B1q.out).mono ?_
  rintro e v2 hF
  obtain ⟨ax, cx, rfl, hcx, hb2, hyx, -, -⟩ := hF.conv HB1.out
  have B2 := Lib.hid (B1q.out.trans (hb2.mono B1q.out.size))
  clear hF hb2
  have X2 := Lib.hid hyx
  clear hyx
  go_wp2_with fail
  refine (HK2.out _ B2.out).mono ?_
  rintro e v3 hF
  obtain ⟨ay, cy, rfl, hcy, hb3, hyy, -, -⟩ := hF.conv HB2.out
  have B3 := Lib.hid (B2.out.trans (hb3.mono B2.out.size))
  have X3 := Lib.hid (X2.out.keep hb3)
  have Y3 := Lib.hid hyy
  clear hF hb3 hyy X2
  go_wp2_with fail
  refine ((HME.out _ _ _ _ _ X3.out Y3.out hcx hcy).1).mono ?_
  rintro e v4 hF
  obtain ⟨am, cm, rfl, hcm, hb4, hym, -, -⟩ := hF.conv HMB.out
  have B4 := Lib.hid (B3.out.trans (hb4.mono B3.out.size))
  have X4 := Lib.hid (X3.out.keep hb4)
  have Y4 := Lib.hid (Y3.out.keep hb4)
  have M4 := Lib.hid hym
  have S4 := Lib.hid (HS1.out.keep B4.out)
  have T4 := Lib.hid (HS2.out.keep B4.out)
  clear hF hb4 hym X3 Y3 HME
  have HMX : Hid (∀ key ∈ s1, ∀ wx, Below v4.heap.size v4 wx → (Calls Try.prog 17 #[.slice ax x.length cx, .string key] wx fun e w' => e = .returned (.bool true) ∧ Below wx.heap.size wx w') ∧ Calls Try.prog 17 #[.slice am x.length cm, .string key] wx fun e w' => e = .returned (.bool true) ∧ Below wx.heap.size wx w') := Lib.hid (fun key hk wx h => by
    have m1 := may_any wx ax cx _ x rfl (X4.out.keep h) HB1.out hxl key (HZ1.out key hk)
    have m2 := may_any wx am cm _ (mergeL x y) rfl (M4.out.keep h) HMB.out (by rw [HML.out]; exact hxl) key (HZ1.out key hk)
    have t1 := HX1.out (natsOf key) (List.mem_map.2 ⟨key, hk, rfl⟩)
    rw [HMM.out _ (.inl t1), HML.out] at m2
    rw [t1] at m1
    exact ⟨m1, m2⟩)
  have HMY : Hid (∀ key ∈ s2, ∀ wx, Below v4.heap.size v4 wx → (Calls Try.prog 17 #[.slice ay y.length cy, .string key] wx fun e w' => e = .returned (.bool true) ∧ Below wx.heap.size wx w') ∧ Calls Try.prog 17 #[.slice am x.length cm, .string key] wx fun e w' => e = .returned (.bool true) ∧ Below wx.heap.size wx w') := Lib.hid (fun key hk wx h => by
    have m1 := may_any wx ay cy _ y rfl (Y4.out.keep h) HB2.out hyl key (HZ2.out key hk)
    have m2 := may_any wx am cm _ (mergeL x y) rfl (M4.out.keep h) HMB.out (by rw [HML.out]; exact hxl) key (HZ2.out key hk)
    have t1 := HX2.out (natsOf key) (List.mem_map.2 ⟨key, hk, rfl⟩)
    rw [HMM.out _ (.inr t1), HML.out] at m2
    rw [t1] at m1
    exact ⟨m1, m2⟩)
  rw [HML.out]
  clear X4 Y4 M4
  generalize x.length = nx at *
  generalize y.length = ny at *
  have hqn : ((nx : Int) != (nx : Int)) = false := by simp
  go_wp2_with fail
  clear hqn hmin p1 p2
  go_loopw [14] (fun u wr => ∃ i : Nat, i ≤ n ∧ u = .int .i64 (i : Int) ∧ Hid (Below v4.heap.size v4 wr)) (fun u _ => n - (intOf u).toNat)
  case atStart => exact ⟨0, by omega, rfl, Below.refl _ _⟩
  case round =>
    obtain ⟨i, hi, rfl, hI⟩ := hrel
    by_cases hlt : i < n
    · obtain ⟨b0, o0, rfl, c0⟩ := S4.out.at (k := i) (by rw [HL1.out]; exact hlt)
      obtain ⟨b1, o1, rfl, c1⟩ := T4.out.at (k := i) (by rw [HL2.out]; exact hlt)
      have m0 := List.getElem_mem (show i < s1.length by rw [HL1.out]; exact hlt)
      have m1 := List.getElem_mem (show i < s2.length by rw [HL2.out]; exact hlt)
      have KX := Lib.hid (HMX.out _ m0)
      have KY := Lib.hid (HMY.out _ m1)
      generalize s1[i]'(by rw [HL1.out]; exact hlt) = k0 at *
      generalize s2[i]'(by rw [HL2.out]; exact hlt) = k1 at *
      have l0 : b0 < v4.heap.size := World.block_lt_of_cell? _ _ c0
      have l1 : b1 < v4.heap.size := World.block_lt_of_cell? _ _ c1
      have C0 := Lib.hid c0
      have C1 := Lib.hid c1
      have g0 := (hI.out.cell (p := ⟨b0, o0 + i, none⟩) l0).trans c0
      clear c0 c1 m0 m1
      go_wp2_with fail
      refine ((KX.out _ hI.out).1).mono ?_
      rintro e x1 ⟨rfl, hx1⟩
      have D1 := Lib.hid (hI.out.trans (hx1.mono hI.out.size))
      clear hx1 g0
      have g1 := (D1.out.cell (p := ⟨b1, o1 + i, none⟩) l1).trans C1.out
      go_wp2_with fail
      refine ((KY.out _ D1.out).1).mono ?_
      rintro e x2 ⟨rfl, hx2⟩
      have D2 := Lib.hid (D1.out.trans (hx2.mono D1.out.size))
      clear hx2 g1
      have g2 := (D2.out.cell (p := ⟨b0, o0 + i, none⟩) l0).trans C0.out
      go_wp2_with fail
      refine ((KX.out _ D2.out).2).mono ?_
      rintro e x3 ⟨rfl, hx3⟩
      have D3 := Lib.hid (D2.out.trans (hx3.mono D2.out.size))
      clear hx3 g2
      have g3 := (D3.out.cell (p := ⟨b1, o1 + i, none⟩) l1).trans C1.out
      go_wp2_with fail
      refine ((KY.out _ D3.out).2).mono ?_
      rintro e x4 ⟨rfl, hx4⟩
      have D4 := Lib.hid (D3.out.trans (hx4.mono D3.out.size))
      clear hx4 g3
      go_wp2
      go_roundw
      case rel => exact ⟨i + 1, by omega, by go_num, D4.out⟩
      case measure => simp [intOf]; omega
    · obtain rfl : i = n := by omega
      have HE := Lib.hid (B4.out.trans (hI.out.mono B4.out.size))
      clear hI
      go_wp2
      go_ret
      exact ⟨rfl, HE.out⟩
end bloomYes
end Go.Proofs.Ytfgcdmgbgadkgaa
