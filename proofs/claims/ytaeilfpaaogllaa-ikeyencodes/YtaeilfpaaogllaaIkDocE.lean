/-
  What DocEncode answers.
-/
import Derived.Test.YtaeilfpaaogllaaIkOwnG
import Derived.Test.YtaeilfpaaogllaaIkDocU
namespace Go.Proofs.Ytaeilfpaaogllaa
open Go.RowKit

theorem encR_byte (k : ByteArray) (s d : Int) : ∀ x ∈ encR k s d, x < 256 := by
  unfold encR; split
  · exact encL_byte k s d
  · simp
set_option maxRecDepth 100000 in
set_option maxHeartbeats 800000 in
theorem docEnc_any (k : ByteArray) (s d : Int) (w : World) :
    Calls Try.prog 10 #[verV k s d] w (DocS w (encR k s d) (chkI k s d)) := by
  have HC : Hid (∀ wx, Calls Try.prog 16 #[verV k s d] wx fun e w' => e = .returned (.bool (decide (okV k s d))) ∧ Below wx.heap.size wx w') := Lib.hid (right_any k s d)
  by_cases hok : okV k s d
  · have hsz : k.size ≤ 64 := hok.2.1
    rw [decide_eq_true hok] at HC
    have hE := chk_yes hok
    rw [hE]
    have hR : encR k s d = encL k s d := if_pos hok
    obtain ⟨S, rfl⟩ : ∃ n : Nat, s = n := ⟨s.toNat, by have := hok.2.2.1; omega⟩
    obtain ⟨D, rfl⟩ : ∃ n : Nat, d = n := ⟨d.toNat, by have := hok.2.2.2.2; omega⟩
    have hS : S ≤ 72057594037927935 := by have := hok.2.2.2.1; omega
    have hD : D < 2 := by have := hok.2.2.2.2; omega
    have HR : Hid (encR k S D = natsOf k ++ fixL (S * 256 + D) 8) := Lib.hid (by
      rw [hR]; unfold encL
      rw [show markN (S : Int) (D : Int) = S * 256 + D by unfold markN; omega])
    have HSB := Lib.hid (encR_byte k S D)
    clear hR hE hok
    unfold verV at *
    have HV0 := Lib.hid (verAt_new w k S D 23)
    go_enter Try.func10, Try.ntmps10
    go_wp2_with fail
    refine (HC.out _).mono ?_
    rintro e w1 ⟨rfl, hb1⟩
    have HB1 : Hid (Below w.heap.size w w1) := Lib.hid ((bel1 _ _).trans (hb1.mono (by simp)))
    have V1 := Lib.hid (HV0.out.keep hb1)
    have hs1 : w.heap.size + 1 ≤ w1.heap.size := V1.out.lt
    clear hb1 HV0 HC
    obtain ⟨v2, w2, r2, o2, b2⟩ := conv_own w1 w1 (w.heap.size + 1) k (by omega) (Below.refl _ _) hs1
    have x0 := V1.out.c0
    have y2 := (b2.cell (p := ⟨w.heap.size, 2, none⟩) (by simp)).trans V1.out.c2
    obtain ⟨v3, w3, r3, o3, b3⟩ := appG (w.heap.size + 1) w1 w2 _ _ _ (D : Int) D rfl o2 b2 hs1 w2.heap.size rfl (by omega)
    have z1 := (b3.cell (p := ⟨w.heap.size, 1, none⟩) (by simp)).trans V1.out.c1
    have O3 : Hid (OwnG w3 (w.heap.size + 1) v3 (k.size + 1) (natsOf k ++ fixL (S * 256 + D) 1) ∧ Below (w.heap.size + 1) w1 w3) := Lib.hid ⟨by
      rw [show fixL (S * 256 + D) 1 = [D] by simp [fixL]; omega]; exact o3, b3⟩
    clear o2 b2 o3 b3
    go_wp2_with (at_builtin; refine wpList_app_run rfl rfl r3 rfl rfl ?_)
    clear r2 r3 x0 y2 z1
    have HSH : Hid (shr8 S 0 = S) := Lib.hid (by simp [shr8])
    go_loopw [4, 5, 6] (fun v n i wr => ∃ t : Nat, t ≤ 7 ∧ i = .int .i64 (t : Int) ∧ n = .int .i64 (shr8 S t : Int) ∧ Hid (OwnG wr (w.heap.size + 1) v (k.size + 1 + t) (natsOf k ++ fixL (S * 256 + D) (t + 1)) ∧ Below (w.heap.size + 1) w1 wr)) (fun _ _ i _ => 7 - (intOf i).toNat)
    case atStart => exact ⟨0, by omega, rfl, by rw [HSH.out], O3.out⟩
    case round =>
      obtain ⟨t, ht, rfl, rfl, hI⟩ := hrel
      obtain ⟨ho, hB⟩ := hI.out
      clear O3
      by_cases hlt : t < 7
      · have hsl : shr8 S t ≤ 72057594037927935 := Nat.le_trans (Nat.div_le_self _ _) hS
        have hxb : (shr8 S t : Int) % 256 = ((shr8 S t % 256 : Nat) : Int) := by omega
        obtain ⟨v6, w6, r6, o6, b6⟩ := appG (w.heap.size + 1) w1 wr _ _ _ ((shr8 S t : Int) % 256) _ hxb ho hB hs1 wr.heap.size rfl (by omega)
        have HF : Hid (OwnG w6 (w.heap.size + 1) v6 (k.size + 1 + (t + 1)) (natsOf k ++ fixL (S * 256 + D) (t + 1 + 1)) ∧ Below (w.heap.size + 1) w1 w6) := Lib.hid ⟨by
          rw [fixL_snoc, mark_shift S D t (by omega), ← List.append_assoc]; exact o6, b6⟩
        have HSS := Lib.hid (shr8_succ S t)
        clear ho hB o6 b6 hI hxb
        generalize shr8 S t = q at *
        go_wp2_with (at_builtin; refine wpList_app_run rfl rfl r6 rfl rfl ?_)
        go_roundw
        case rel => exact ⟨t + 1, by omega, by go_num, by rw [HSS.out], HF.out⟩
        case measure => simp [intOf]; omega
      · obtain rfl : t = 7 := by omega
        rw [← HR.out] at ho
        obtain ⟨a6, c6, rfl, hl6, hy6, hn6, -⟩ := ho.byt
        have hcv := conv_bytes hy6 HSB.out hn6 c6 _ hl6
        have HB6 : Hid (Below w.heap.size w wr) := Lib.hid (HB1.out.trans (hB.mono (by omega)))
        clear ho hB hI hl6 hy6 hn6
        generalize hSR : encR k S D = R at *
        have HSR := Lib.hid hSR
        clear hSR
        go_wp2
        go_ret2
        exact ⟨rfl, HB6.out⟩
  · have hE := chk_no hok
    rw [decide_eq_false hok] at HC
    have HR : Hid (encR k s d = []) := Lib.hid (if_neg hok)
    rw [hE]
    clear hE hok
    unfold verV at *
    go_enter Try.func10, Try.ntmps10
    go_wp2_with fail
    refine (HC.out _).mono ?_
    rintro e w1 ⟨rfl, hb1⟩
    have HB1 : Hid (Below w.heap.size w w1) := Lib.hid ((bel1 _ _).trans (hb1.mono (by simp)))
    clear hb1 HC
    go_wp2
    go_ret2
    rw [HR.out]
    exact ⟨rfl, HB1.out⟩
end Go.Proofs.Ytaeilfpaaogllaa
