/-
  The law BloomShuffles, walked.
-/
import Derived.Test.YtfgcdmgbgadkgaaBlShuf
namespace Go.Proofs.Ytfgcdmgbgadkgaa
open Go.RowKit

theorem big1 (w : World) (a0 : Option Addr) (len0 cap0 : Nat) (bits : Int) (h0 : 2000 < len0) :
    Calls Try.prog 7 #[.slice a0 len0 cap0, .int .i64 bits] w fun e w' => e = .returned (.bool true) ∧ Below w.heap.size w w' := by
  go_enter Try.func7, Try.ntmps7
  go_wp2_with fail
  refine (blooms_any _).mono ?_
  rintro e w1 ⟨rfl, hb1⟩
  have B1 := Lib.hid hb1
  clear hb1
  go_wp2_with fail
  refine (blooms_any _).mono ?_
  rintro e w2 ⟨rfl, hb2⟩
  have B2 := Lib.hid (B1.out.trans (hb2.mono B1.out.size))
  clear hb2
  go_wp2
  go_ret
  exact ⟨rfl, B2.out⟩
def bits_sub (y x : List Nat) (j : Nat) : Prop := ∀ t, (y.getD j 0).testBit t = true → (x.getD j 0).testBit t = true
theorem str_ne (s : ByteArray) : (s.toList != s.toList) = false := by simp
theorem apart_nil (u : Value) : Apart (.slice none 0 0) u := fun g h => by simp [Value.ownBlock] at h
namespace bloomShuffles
set_option maxRecDepth 100000 in
set_option maxHeartbeats 1600000 in
theorem walk (a0 : Option Addr) (len0 cap0 : Nat) (ss : List ByteArray) (bits : Int) (w : World) (w0 : IsStrs w a0 len0 cap0 ss) (_w1 : (Lit.int .i64 bits).wf = true) :
    Calls Try.prog 7 #[.slice a0 len0 cap0, .int .i64 bits] w fun e w' => e = .returned (.bool true) ∧ Below w.heap.size w w' := by
  by_cases hbig : 2000 < len0
  · exact big1 w a0 len0 cap0 bits hbig
  obtain ⟨hn, hs, hcap, hsz⟩ := w0
  have HS := Lib.hid hs
  have HN := Lib.hid hn
  have HZ := Lib.hid hsz
  have hq0 : decide ((2000 : Int) < (len0 : Int)) = false := by simp; omega
  clear hs hn hsz
  go_enter Try.func7, Try.ntmps7
  go_wp2_with fail
  refine (blooms_any _).mono ?_
  rintro e w1 ⟨rfl, hb1⟩
  have B1 := Lib.hid hb1
  clear hb1
  have S1 := Lib.hid (HS.out.keep B1.out)
  go_wp2_with fail
  clear hq0
  go_loopw [5, 6, 7] (fun v u x wr => ∃ i : Nat, i ≤ len0 ∧ x = .int .i64 (i : Int) ∧ Hid (wr.ownsRow w1.heap.size 9 1 v i (strV (pickL ss (fun j => len0 - 1 - j) i)) ∧ wr.ownsRow w1.heap.size 9 1 u i (strV (pickL ss (fun j => j / 2 * 2) i)) ∧ Apart v u ∧ Below w1.heap.size w1 wr)) (fun _ _ x _ => len0 - (intOf x).toNat)
  case atStart => exact ⟨0, by omega, rfl, World.ownsRow_nil _ _ _ _, World.ownsRow_nil _ _ _ _, apart_nil _, Below.refl _ _⟩
  case round =>
    obtain ⟨i, hi, rfl, hI⟩ := hrel
    obtain ⟨ho1, ho2, hap, hB⟩ := hI.out
    by_cases hlt : i < len0
    · obtain ⟨b, off, rfl, c1⟩ := (S1.out.keep hB).at (k := len0 - 1 - i) (by rw [HN.out]; omega)
      obtain ⟨b', off', e, c2⟩ := (S1.out.keep hB).at (k := i / 2 * 2) (by rw [HN.out]; omega)
      cases e
      rw [← sgetD (by rw [HN.out]; omega)] at c1 c2
      have hlb : b < wr.heap.size := World.block_lt_of_cell? _ _ c1
      obtain ⟨v5, w5, r5, o5, o6, ap5, b5⟩ := appS w1.heap.size w1 wr _ _ _ _ _ _ (ss.getD (len0 - 1 - i) ⟨#[]⟩) ho1 ho2 hap hB (Nat.le_refl _) wr.heap.size rfl (by omega)
      have hl1 : b < w1.heap.size := by
        rcases S1.out with h | ⟨b2, o2, e, hlt2, _⟩
        · have := HN.out; rw [h] at this; simp at this; omega
        · cases e; exact hlt2
      have c3 : w5.cell? ⟨b, off + i / 2 * 2, none⟩ = some (.string (ss.getD (i / 2 * 2) ⟨#[]⟩)) := by
        rw [(b5.cell (p := ⟨b, off + i / 2 * 2, none⟩) hl1), ← (hB.cell (p := ⟨b, off + i / 2 * 2, none⟩) hl1)]; exact c2
      obtain ⟨v6, w6, r6, o7, o8, ap6, b6⟩ := appS w1.heap.size w1 w5 _ _ _ _ _ _ (ss.getD (i / 2 * 2) ⟨#[]⟩) o6 o5 ap5.symm b5 (Nat.le_refl _) w5.heap.size rfl (by omega)
      have HF : Hid (w6.ownsRow w1.heap.size 9 1 v5 (i + 1) (strV (pickL ss (fun j => len0 - 1 - j) (i + 1))) ∧ w6.ownsRow w1.heap.size 9 1 v6 (i + 1) (strV (pickL ss (fun j => j / 2 * 2) (i + 1))) ∧ Apart v5 v6 ∧ Below w1.heap.size w1 w6) := Lib.hid ⟨by rw [pickL_snoc]; exact o8, by rw [pickL_snoc]; exact o7, ap6.symm, b6⟩
      have e1 : (len0 : Int) - 1 - (i : Int) = ((len0 - 1 - i : Nat) : Int) := by omega
      have hb1 : len0 - 1 - i < len0 := by omega
      have e2 : (i : Int) / 2 * 2 = ((i / 2 * 2 : Nat) : Int) := by omega
      have hb2 : i / 2 * 2 < len0 := by omega
      generalize ss.getD (len0 - 1 - i) ⟨#[]⟩ = t1 at *
      generalize ss.getD (i / 2 * 2) ⟨#[]⟩ = t2 at *
      generalize len0 - 1 - i = k1 at *
      generalize i / 2 * 2 = k2 at *
      clear ho1 ho2 hap hB hI o5 o6 o7 o8 ap5 ap6 b5 b6 c2 S1
      go_wp2_with (at_builtin; first | refine wpList_app_run rfl rfl r5 rfl rfl ?_ | refine wpList_app_run rfl rfl r6 rfl rfl ?_)
      go_roundw
      case rel => exact ⟨i + 1, by omega, by go_num, HF.out⟩
      case measure => simp [intOf]; omega
    · obtain rfl : i = len0 := by omega
      obtain ⟨ab, cb, rfl, lb, sb⟩ := strs_of_own ho1
      obtain ⟨at', ct, rfl, lt, st⟩ := strs_of_own ho2
      have BI := Lib.hid (B1.out.trans (hB.mono B1.out.size))
      have hsub1 := pick_sub ss (fun j => i - 1 - j) i HN.out (fun j hj => by omega)
      have hsub2 := pick_sub ss (fun j => j / 2 * 2) i HN.out (fun j hj => by omega)
      have hsup := pick_back ss i HN.out
      have HK : Hid (∀ wx, Below wr.heap.size wr wx → Calls Try.prog 14 #[.slice a0 i cap0, .int .i64 bits] wx (FreshE wx (buildR (ss.map natsOf) bits) (buildE bits))) := Lib.hid (fun wx h => build_any wx a0 cap0 i ss HN.out (((HS.out.keep BI.out)).keep h) HZ.out (by omega) bits)
      have HK1 : Hid (∀ wx, Below wr.heap.size wr wx → Calls Try.prog 14 #[.slice ab i cb, .int .i64 bits] wx (FreshE wx (buildR (ss.map natsOf) bits) (buildE bits))) := Lib.hid (fun wx h => by
        have m := build_any wx ab cb i _ lb (sb.keep h) (fun s hs => HZ.out s (hsub1 s hs)) (by omega) bits
        have e : buildR ((pickL ss (fun j => i - 1 - j) i).map natsOf) bits = buildR (ss.map natsOf) bits := by
          unfold buildR
          rw [build_same _ (ss.map natsOf) bits.toNat (by rw [List.length_map, List.length_map, lb, HN.out]) (fun k => ⟨fun hk => by
            obtain ⟨s, hs, rfl⟩ := List.mem_map.1 hk; exact List.mem_map.2 ⟨s, hsub1 s hs, rfl⟩, fun hk => by
            obtain ⟨s, hs, rfl⟩ := List.mem_map.1 hk; exact List.mem_map.2 ⟨s, hsup s hs, rfl⟩⟩)]
        rwa [e] at m)
      have HK2 : Hid (∀ wx, Below wr.heap.size wr wx → Calls Try.prog 14 #[.slice at' i ct, .int .i64 bits] wx (FreshE wx (buildR ((pickL ss (fun j => j / 2 * 2) i).map natsOf) bits) (buildE bits))) := Lib.hid (fun wx h => build_any wx at' ct i _ lt (st.keep h) (fun s hs => HZ.out s (hsub2 s hs)) (by omega) bits)
      have hln : (buildR ((pickL ss (fun j => j / 2 * 2) i).map natsOf) bits).length = (buildR (ss.map natsOf) bits).length := by
        unfold buildR; split
        · rw [buildL_length, buildL_length, List.length_map, List.length_map, lt, HN.out]
        · rfl
      have hsb : ∀ j, j < (buildR (ss.map natsOf) bits).length - 1 → bits_sub (buildR ((pickL ss (fun j => j / 2 * 2) i).map natsOf) bits) (buildR (ss.map natsOf) bits) j := by
        intro j hj t ht
        unfold buildR at *
        by_cases hb : 1 ≤ bits ∧ bits ≤ 64
        · rw [if_pos hb] at *
          rw [buildL_length] at hj
          exact build_sub _ _ _ j (by rw [List.length_map, List.length_map, lt, HN.out]) (fun k hk => by
            obtain ⟨s, hs, rfl⟩ := List.mem_map.1 hk; exact List.mem_map.2 ⟨s, hsub2 s hs, rfl⟩) (by omega) t ht
        · rw [if_neg hb] at *; simp at hj
      have hb1 := buildR_byte (ss.map natsOf) bits
      have hb2 := buildR_byte ((pickL ss (fun j => j / 2 * 2) i).map natsOf) bits
      have hend : (buildE bits = 0 ∧ 8 < (buildR (ss.map natsOf) bits).length ∧ (buildR (ss.map natsOf) bits).length ≤ 1000000) ∨ (buildE bits = 1 ∧ (buildR (ss.map natsOf) bits).length = 0) := by
        unfold buildE buildR
        by_cases hb : 1 ≤ bits ∧ bits ≤ 64
        · left
          have hz := sizOf_le i bits.toNat (by omega) (by omega)
          rw [if_pos hb, if_pos hb, buildL_length, List.length_map, HN.out]; omega
        · right; rw [if_neg hb, if_neg hb]; exact ⟨rfl, rfl⟩
      generalize buildR (ss.map natsOf) bits = x at *
      generalize buildR ((pickL ss (fun j => j / 2 * 2) i).map natsOf) bits = y at *
      generalize buildE bits = E at *
      have HLN := Lib.hid hln
      have HSB := Lib.hid hsb
      have HX := Lib.hid hb1
      have HY := Lib.hid hb2
      clear ho1 ho2 hap hB hI lb lt sb st hsub1 hsub2 hsup hln hsb hb1 hb2 S1
      go_wp2_with fail
      refine (HK.out _ (Below.refl _ _)).mono ?_
      rintro e v1 hF
      obtain ⟨ax, cx, rfl, hcx, d1, hyx, -, hcvx⟩ := hF.conv HX.out
      have D1 := Lib.hid d1
      have X1 := Lib.hid hyx
      have XC := Lib.hid hcvx
      clear hF d1 hyx hcvx HK
      go_wp2_with fail
      refine (HK1.out _ D1.out).mono ?_
      rintro e v2 hF
      obtain ⟨ay, cy, rfl, hcy, d2, -, -, hcvy⟩ := hF.conv HX.out
      have D2 := Lib.hid (D1.out.trans (d2.mono D1.out.size))
      have X2 := Lib.hid (X1.out.keep d2)
      have G2 := Lib.hid d2
      have YC := Lib.hid hcvy
      clear hF d2 hcvy HK1 X1
      go_wp2_with fail
      refine (HK2.out _ D2.out).mono ?_
      rintro e v3 hF
      obtain ⟨az, cz, rfl, hcz, d3, hyz, -, -⟩ := hF.conv HY.out
      have D3 := Lib.hid (D2.out.trans (d3.mono D2.out.size))
      have X3 := Lib.hid (X2.out.keep d3)
      have Z3 := Lib.hid hyz
      have k1 := XC.out v3 (G2.out.trans (d3.mono G2.out.size))
      have k2 := YC.out v3 d3
      have ss1 := str_ne (strOf x)
      have BE := Lib.hid (BI.out.trans (D3.out.mono BI.out.size))
      rw [HLN.out]
      rw [HLN.out] at hcz
      clear hF d3 hyz HK2 X2 XC YC G2 D1 D2
      generalize strOf x = SX at *
      obtain ⟨nx, hnx⟩ : ∃ nx, x.length = nx := ⟨_, rfl⟩
      rw [hnx] at hend hcx hcy hcz k1 k2 ⊢
      have HNX := Lib.hid hnx
      clear hnx
      have qE : (E != E) = false := by simp
      have qn : ((nx : Int) != (nx : Int)) = false := by simp
      have hnl : nx ≤ 1000000 := by rcases hend with h | h <;> omega
      go_wp2_with fail
      clear k1 k2 ss1 qE qn
      go_loopw [14] (fun u wq => ∃ j : Nat, j ≤ nx ∧ u = .int .i64 (j : Int) ∧ Hid (Below v3.heap.size v3 wq)) (fun u _ => nx - (intOf u).toNat)
      case atStart => exact ⟨0, by omega, rfl, Below.refl _ _⟩
      case round =>
        obtain ⟨j, hj, rfl, hI⟩ := hrel
        by_cases hlt2 : (j : Int) < (nx : Int) - 1
        · have hj1 : j < x.length := by rw [HNX.out]; omega
          have hj2 : j < y.length := by rw [HLN.out, HNX.out]; omega
          obtain ⟨b1, o1, rfl, c1⟩ := (X3.out.keep hI.out).at (k := j) hj1
          obtain ⟨b2, o2, rfl, c2⟩ := (Z3.out.keep hI.out).at (k := j) hj2
          have hb1 := HX.out _ (List.getElem_mem hj1)
          have hb2 := HY.out _ (List.getElem_mem hj2)
          have hz := andnot_zero y[j] x[j] (fun t ht => by
            have := HSB.out j (by rw [HNX.out]; omega) t (by rw [getD_at hj2]; exact ht)
            rwa [getD_at hj1] at this)
          generalize x[j] = cx1 at *
          generalize y[j] = cy1 at *
          have hjl : j < nx := by omega
          go_wp2_with fail
          go_quiet (fail)
          go_wp2
          go_roundw
          case rel => exact ⟨j + 1, by omega, by go_num, hI.out.trans (below_drewN _ _ _)⟩
          case measure => simp [intOf]; omega
        · have BF := Lib.hid (BE.out.trans (hI.out.mono BE.out.size))
          clear hI
          rcases hend with ⟨rfl, h8, _⟩ | ⟨rfl, h0⟩
          · have q8 : decide ((8 : Int) < (nx : Int)) = true := by simp; omega
            go_wp2
            go_ret
            exact ⟨rfl, BF.out⟩
          · have q0 : ((nx : Int) == 0) = true := by simp; omega
            go_wp2
            go_ret
            exact ⟨rfl, BF.out⟩
end bloomShuffles
end Go.Proofs.Ytfgcdmgbgadkgaa
