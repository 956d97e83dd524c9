/-
  What DocSortable answers.
-/
import Derived.Test.YtaeilfpaaogllaaIkUns
namespace Go.Proofs.Ytaeilfpaaogllaa
open Go.RowKit

theorem comp_byte (m t : Nat) (hm : m < 18446744073709551616) (ht : t ≤ 7) : (18446744073709551615 - m) / 2 ^ (8 * t) % 256 = 255 - m / 2 ^ (8 * t) % 256 := by
  have h : t = 0 ∨ t = 1 ∨ t = 2 ∨ t = 3 ∨ t = 4 ∨ t = 5 ∨ t = 6 ∨ t = 7 := by omega
  rcases h with rfl | rfl | rfl | rfl | rfl | rfl | rfl | rfl
  all_goals simp only [Nat.reduceMul, Nat.reducePow, Nat.div_one]; omega
theorem mark_shift (S D t : Nat) (hD : D < 256) : (S * 256 + D) / 2 ^ (8 * (t + 1)) = S / 2 ^ (8 * t) := by
  rw [pow8, ← Nat.div_div_eq_div_mul]; congr 1; omega
theorem doc_byte (S D t : Nat) (hS : S ≤ 72057594037927935) (hD : D < 256) (ht : t ≤ 6) : (18446744073709551615 - (S * 256 + D)) / 2 ^ (8 * (t + 1)) % 256 = 255 - S / 2 ^ (8 * t) % 256 := by
  rw [comp_byte _ _ (by omega) (by omega), mark_shift S D t hD]
def DocS (w : World) (L : List Nat) (E : Int) (e : Ending) (w' : World) : Prop := e = .returned (.tuple #[.string (strOf L), .int .i64 E]) ∧ Below w.heap.size w w'
set_option maxRecDepth 100000 in
set_option maxHeartbeats 800000 in
theorem docSort_any (k : ByteArray) (s d : Int) (w : World) :
    Calls Try.prog 17 #[verV k s d] w (DocS w (sortR k s d) (chkI k s d)) := by
  have HC : Hid (∀ wx, Calls Try.prog 16 #[verV k s d] wx fun e w' => e = .returned (.bool (decide (okV k s d))) ∧ Below wx.heap.size wx w') := Lib.hid (right_any k s d)
  by_cases hok : okV k s d
  · have hsz : k.size ≤ 64 := hok.2.1
    rw [decide_eq_true hok] at HC
    have hE := chk_yes hok
    rw [hE]
    have hR : sortR k s d = sortL k s d := if_pos hok
    obtain ⟨S, rfl⟩ : ∃ n : Nat, s = n := ⟨s.toNat, by have := hok.2.2.1; omega⟩
    obtain ⟨D, rfl⟩ : ∃ n : Nat, d = n := ⟨d.toNat, by have := hok.2.2.2.2; omega⟩
    have hS : S ≤ 72057594037927935 := by have := hok.2.2.2.1; omega
    have hD : D < 2 := by have := hok.2.2.2.2; omega
    have HR : Hid (sortR k S D = esc (natsOf k) ++ [0, 0] ++ bigL (18446744073709551615 - (S * 256 + D)) 8) := Lib.hid (by
      rw [hR]; unfold sortL
      rw [show markN (S : Int) (D : Int) = S * 256 + D by unfold markN; omega]; simp)
    have HSB := Lib.hid (sortL_byte k S D)
    rw [← hR] at HSB
    have HNL := Lib.hid (natsOf_length k)
    clear hR hE hok
    unfold verV at *
    have HV0 := Lib.hid (verAt_new w k S D 23)
    go_enter Try.func17, Try.ntmps17
    go_wp2_with fail
    refine (HC.out _).mono ?_
    rintro e w1 ⟨rfl, hb1⟩
    have HB1 : Hid (Below w.heap.size w w1) := Lib.hid ((bel1 _ _).trans (hb1.mono (by simp)))
    have V1 := Lib.hid (HV0.out.keep hb1)
    have hs1 : w.heap.size + 1 ≤ w1.heap.size := V1.out.lt
    clear hb1 HV0 HC
    go_wp2_with fail
    go_loopw [4, 5] (fun v i wr => ∃ j : Nat, j ≤ k.size ∧ i = .int .i64 (j : Int) ∧ Hid (wr.ownsRow (w.heap.size + 1) 5 1 v (esc ((natsOf k).take j)).length (u8s (esc ((natsOf k).take j))) ∧ Below (w.heap.size + 1) w1 wr)) (fun _ i _ => k.size - (intOf i).toNat)
    case atStart => exact ⟨0, by omega, rfl, World.ownsRow_nil _ _ _ _, Below.refl _ _⟩
    case round =>
      obtain ⟨j, hj, rfl, hI⟩ := hrel
      obtain ⟨ho, hB⟩ := hI.out
      have p0 := (hB.cell (p := ⟨w.heap.size, 0, none⟩) (by simp)).trans V1.out.c0
      by_cases hlt : j < k.size
      · have hjl : j < (natsOf k).length := by rw [HNL.out]; exact hlt
        have hET := esc_take (natsOf k) j hjl
        have hEL := esc_length ((natsOf k).take j)
        rw [List.length_take] at hEL
        rw [natsOf_get k j hlt] at hET
        have hc256 := (k[j]).toNat_lt
        obtain ⟨v5, w5, r5, o5, b5⟩ := app1 (w.heap.size + 1) w1 wr _ _ _ (k[j].toNat : Int) k[j].toNat rfl ho hB hs1 wr.heap.size rfl (by omega)
        have p5 := (b5.cell (p := ⟨w.heap.size, 0, none⟩) (by simp)).trans V1.out.c0
        by_cases h0 : k[j].toNat = 0
        · rw [if_pos h0] at hET
          obtain ⟨v6, w6, r6, o6, b6⟩ := app1 (w.heap.size + 1) w1 w5 _ _ _ (255 : Int) 255 rfl o5 b5 hs1 w5.heap.size rfl (by omega)
          have hz : ((k[j].toNat : Int) == 0) = true := by simp; omega
          have HF : Hid (w6.ownsRow (w.heap.size + 1) 5 1 v6 (esc ((natsOf k).take (j + 1))).length (u8s (esc ((natsOf k).take (j + 1)))) ∧ Below (w.heap.size + 1) w1 w6) := Lib.hid (by
            have e : esc ((natsOf k).take (j + 1)) = esc ((natsOf k).take j) ++ [k[j].toNat] ++ [255] := by rw [hET, h0]; simp
            refine ⟨?_, b6⟩
            rw [e, ← own_len o6]; exact o6)
          clear ho hB hET hEL o5 b5 o6 b6 hI h0
          go_wp2_with (at_builtin; first | refine wpList_app_run rfl rfl r5 rfl rfl ?_ | refine wpList_app_run rfl rfl r6 rfl rfl ?_)
          go_roundw
          case rel => exact ⟨j + 1, by omega, by go_num, HF.out⟩
          case measure => simp [intOf]; omega
        · rw [if_neg h0] at hET
          have hz : ((k[j].toNat : Int) == 0) = false := by rw [beq_eq_false_iff_ne]; omega
          have HF : Hid (w5.ownsRow (w.heap.size + 1) 5 1 v5 (esc ((natsOf k).take (j + 1))).length (u8s (esc ((natsOf k).take (j + 1)))) ∧ Below (w.heap.size + 1) w1 w5) := Lib.hid (by
            refine ⟨?_, b5⟩
            rw [hET, ← own_len o5]; exact o5)
          clear ho hB hET hEL o5 b5 hI h0
          go_wp2_with (at_builtin; refine wpList_app_run rfl rfl r5 rfl rfl ?_)
          go_roundw
          case rel => exact ⟨j + 1, by omega, by go_num, HF.out⟩
          case measure => simp [intOf]; omega
      · obtain rfl : j = k.size := by omega
        rw [List.take_of_length_le (by rw [HNL.out]; exact Nat.le_refl _)] at ho
        have hEL := esc_length (natsOf k)
        rw [HNL.out] at hEL
        obtain ⟨v5, w5, r5, o5, b5⟩ := app2 (w.heap.size + 1) w1 wr _ _ _ 0 0 0 0 rfl rfl ho hB hs1 wr.heap.size rfl (by omega)
        have O5 := Lib.hid (And.intro o5 b5)
        clear ho hB o5 b5 hI
        go_wp2_with (at_builtin; refine wpList_app_run rfl rfl r5 rfl rfl ?_)
        clear r5 p0
        generalize hM : 18446744073709551615 - (S * 256 + D) = M at *
        have HM := Lib.hid hM
        clear hM
        go_loopw [4, 6] (fun v i wr => ∃ t : Nat, t ≤ 7 ∧ i = .int .i64 ((t : Int) - 1) ∧ Hid (wr.ownsRow (w.heap.size + 1) 5 1 v ((esc (natsOf k)).length + 2 + (7 - t)) (u8s (esc (natsOf k) ++ [0, 0] ++ (bigL M 8).take (7 - t))) ∧ Below (w.heap.size + 1) w1 wr)) (fun _ i _ => (intOf i + 1).toNat)
        case atStart => exact ⟨7, by omega, rfl, by simpa using O5.out.1, O5.out.2⟩
        case round =>
          obtain ⟨t, ht, rfl, hI⟩ := hrel
          obtain ⟨ho, hB⟩ := hI.out
          have p1 := (hB.cell (p := ⟨w.heap.size, 1, none⟩) (by simp)).trans V1.out.c1
          have p2 := (hB.cell (p := ⟨w.heap.size, 2, none⟩) (by simp)).trans V1.out.c2
          cases t with
          | succ u =>
            rw [show ((u + 1 : Nat) : Int) - 1 = (u : Int) by omega]
            have hxb : (255 : Int) - (S : Int) / 2 ^ (8 * u) % 256 = ((M / 2 ^ (8 * (7 - (7 - (u + 1)))) % 256 : Nat) : Int) := by
              rw [← HM.out, show 7 - (7 - (u + 1)) = u + 1 by omega, doc_byte S D u hS (by omega) (by omega), shr_val]
              have : S / 2 ^ (8 * u) % 256 < 256 := Nat.mod_lt _ (by omega)
              omega
            obtain ⟨v6, w6, r6, o6, b6⟩ := app1 (w.heap.size + 1) w1 wr _ _ _ _ _ hxb ho hB hs1 wr.heap.size rfl (by omega)
            have HF : Hid (w6.ownsRow (w.heap.size + 1) 5 1 v6 ((esc (natsOf k)).length + 2 + (7 - u)) (u8s (esc (natsOf k) ++ [0, 0] ++ (bigL M 8).take (7 - u))) ∧ Below (w.heap.size + 1) w1 w6) := Lib.hid ⟨by
              have e := big_snoc M (7 - (u + 1)) (by omega)
              rw [show 7 - (u + 1) + 1 = 7 - u by omega] at e
              rw [e, ← List.append_assoc, show (esc (natsOf k)).length + 2 + (7 - u) = (esc (natsOf k)).length + 2 + (7 - (u + 1)) + 1 by omega]; exact o6, b6⟩
            clear ho hB o6 b6 hI hxb p2 O5
            go_wp2_with (at_builtin; refine wpList_app_run rfl rfl r6 rfl rfl ?_)
            go_roundw
            case rel => exact ⟨u, by omega, rfl, HF.out⟩
            case measure => simp [intOf]
          | zero =>
            have hxb : (255 : Int) - (D : Int) = ((M / 2 ^ (8 * (7 - (7 - 0))) % 256 : Nat) : Int) := by
              rw [← HM.out]; simp; omega
            obtain ⟨v6, w6, r6, o6, b6⟩ := app1 (w.heap.size + 1) w1 wr _ _ _ _ _ hxb ho hB hs1 wr.heap.size rfl (by omega)
            have ho8 : w6.ownsRow (w.heap.size + 1) 5 1 v6 (sortR k S D).length (u8s (sortR k S D)) := by
              have e := big_snoc M (7 - 0) (by omega)
              rw [show 7 - 0 + 1 = 8 from rfl, List.take_of_length_le (by rw [bigL_length]; exact Nat.le_refl _)] at e
              rw [HR.out, e, ← List.append_assoc, ← own_len o6]; exact o6
            obtain ⟨a6, c6, rfl, hy6, hn6, -⟩ := byt_of_own ho8
            have hcv := conv_bytes hy6 HSB.out hn6 c6 _ rfl
            have HB6 : Hid (Below w.heap.size w w6) := Lib.hid (HB1.out.trans (b6.mono (by omega)))
            clear ho hB o6 b6 hI hxb p1 O5 ho8 hy6 hn6
            generalize hSR : sortR k S D = R at *
            have HSR := Lib.hid hSR
            clear hSR
            go_wp2_with (at_builtin; refine wpList_app_run rfl rfl r6 rfl rfl ?_)
            go_ret2
            exact ⟨rfl, HB6.out⟩
  · have hE := chk_no hok
    rw [decide_eq_false hok] at HC
    have HR : Hid (sortR k s d = []) := Lib.hid (if_neg hok)
    rw [hE]
    clear hE hok
    unfold verV at *
    go_enter Try.func17, Try.ntmps17
    go_wp2_with fail
    refine (HC.out _).mono ?_
    rintro e w1 ⟨rfl, hb1⟩
    have HB1 : Hid (Below w.heap.size w w1) := Lib.hid ((bel1 _ _).trans (hb1.mono (by simp)))
    clear hb1 HC
    go_wp2
    go_ret2
    rw [HR.out]
    exact ⟨rfl, HB1.out⟩
end Go.Proofs.Ytaeilfpaaogllaa
