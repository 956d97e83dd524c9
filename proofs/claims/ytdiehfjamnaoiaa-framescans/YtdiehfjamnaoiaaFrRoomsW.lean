/-
  The law FrameRooms, walked.
-/
import Derived.Test.YtdiehfjamnaoiaaFrFr
namespace Go.Proofs.Ytdiehfjamnaoiaa
open Go.RowKit

theorem modM (x : Int) (n : Nat) (hp : 0 < n) (hb : n ≤ 9223372036854775807) : ∃ k : Nat, k < n ∧ wrap64 ((IntKind.u64.wrap x).tmod (n : Int)) = (k : Int) := by
  have h0 : 0 ≤ IntKind.u64.wrap x := by rw [u64_val]; omega
  rw [Int.tmod_eq_emod_of_nonneg h0]
  generalize IntKind.u64.wrap x = y at h0
  have h1 := Int.emod_nonneg y (show ((n : Nat) : Int) ≠ 0 by omega)
  have h2 := Int.emod_lt_of_pos y (show (0 : Int) < ((n : Nat) : Int) by omega)
  refine ⟨(y % ((n : Nat) : Int)).toNat, by omega, ?_⟩
  generalize y % ((n : Nat) : Int) = z at *
  unfold wrap64; omega
theorem tail_len : ∀ rec : List Nat, 0 < rec.length → (Frm.tailP rec).length = rec.length + 7 * ((rec.length + 120) / 121) := by
  refine Frm.tail_ind (fun r h h0 => ?_) (fun r h ih h0 => ?_)
  · rw [Frm.tailP_last h, Frm.pieceL_length]; omega
  · rw [Frm.tailP_more h, List.length_append, Frm.pieceL_length, List.length_take, ih (by rw [List.length_drop]; omega), List.length_drop]; omega
theorem frame_len (n : Nat) (rec : List Nat) : (Frm.frameL n rec).length = Frm.gap n + rec.length + 7 * (if rec.length ≤ Frm.room n then 1 else 1 + (rec.length - Frm.room n + 120) / 121) := by
  unfold Frm.frameL Frm.bodyL
  have hr := Frm.room_le n
  by_cases h : rec.length ≤ Frm.room n
  · rw [if_neg (by omega), if_pos h, List.length_append, Frm.pieceL_length, List.length_replicate]; omega
  · rw [if_pos (by omega), if_neg h, List.length_append, List.length_append, Frm.pieceL_length, List.length_replicate, tail_len _ (by rw [List.length_drop]; omega), List.length_take, List.length_drop]; omega
theorem gap_pad (n : Nat) : Frm.gap n = if 121 < n % 128 then 128 - n % 128 else 0 := by unfold Frm.gap Frm.left; split <;> split <;> omega
namespace frameRooms
set_option maxRecDepth 100000 in
set_option maxHeartbeats 2000000 in
theorem walk (a0 a1 : Int) (W : World) (_ : (Lit.int .i64 a0).wf = true) (_ : (Lit.int .i64 a1).wf = true) : Calls Try.prog 8 #[.int .i64 a0, .int .i64 a1] W fun e w' => e = .returned (.bool true) ∧ Below W.heap.size W w' := by
  obtain ⟨A, hA, hAe⟩ := modM a0 100000 (by omega) (by omega)
  obtain ⟨N, hN, hNe⟩ := modM a1 3000 (by omega) (by omega)
  have hAe' : wrap64 ((IntKind.u64.wrap a0).tmod 100000) = (A : Int) := hAe
  have hNe' : wrap64 ((IntKind.u64.wrap a1).tmod 3000) = (N : Int) := hNe
  have kmk := run_make_zs N (by omega)
  obtain ⟨W1, hW1⟩ : ∃ W1, W.alloc (.cells (madeCells #[.int .u8 0] N) 5) = W1 := ⟨_, rfl⟩
  have hb0 : Below W.heap.size W W1 := by rw [← hW1]; exact below_alloc (Nat.le_refl _) _
  have hFr := Frame_any W1 A (by omega) (some ⟨W.heap.size, 0, none⟩) N (zs N) (by rw [← hW1]; exact zs_made W N) (zs_byte N) (by rw [zs_len]; omega) (fun h => by cases h) (by rw [zs_len]; omega)
  have hfl := frame_len A (zs N)
  rw [zs_len] at hfl hFr
  rw [gap_pad] at hfl
  have HFR := Lib.hid hFr
  have HRM := Lib.hid (fun wx => Room_any A (by omega) wx)
  have hrm := Frm.room_le A
  have HB0 := Lib.hid hb0
  have hs0 := hb0.size
  generalize Frm.frameL A (zs N) = F at *
  generalize Frm.room A = r at *
  have HL := Lib.hid hfl
  clear hFr hb0 hfl hAe hNe
  go_enter Try.func8, Try.ntmps8
  go_wp2_with fail
  refine HFR.out.mono ?_
  rintro e W2 ⟨v, rfl, ho, hb2⟩
  obtain ⟨a, cap, rfl, hby, hno, hcap⟩ := byt_of_own ho
  have HB2 : Hid (Below W.heap.size W W2) := Lib.hid (HB0.out.trans (hb2.mono hs0))
  have hs2 := HB2.out.size
  have hFl := HL.out
  obtain ⟨L, hL⟩ : ∃ L, F.length = L := ⟨_, rfl⟩
  rw [hL] at hFl ⊢
  have HFL := Lib.hid hFl
  have HF := Lib.hid (fun wx => framed_any wx)
  have HN := Lib.hid (fun wx => Frame_neg wx (-1 - (A : Int)) (by omega) (.slice none 0 0))
  clear hby hno hcap ho hb2 hL HFR hFl
  go_wp2_with fail
  refine (HRM.out _).mono ?_
  rintro e w' ⟨rfl, rfl⟩
  by_cases g1 : 121 < A % 128
  · by_cases g2 : r < N
    · have hE := HFL.out
      rw [if_pos g1, if_neg (by omega)] at hE
      have he0 : ((L : Int) == 128 - (A : Int) % 128 + (N : Int) + 7 * (1 + ((N : Int) - (r : Int) + 120) / 121)) = true := by rw [beq_iff_eq]; omega
      clear hE HFL
      go_wp2_with fail
      refine (HN.out _).mono ?_
      rintro e w' ⟨rfl, rfl⟩
      go_wp2_with fail
      refine (HF.out _).mono ?_
      rintro e W3 ⟨rfl, hb3⟩
      have HB3 := Lib.hid (HB2.out.trans (hb3.mono hs2))
      clear hb3
      go_wp2
      go_ret
      exact ⟨rfl, HB3.out⟩
    · have hE := HFL.out
      rw [if_pos g1, if_pos (by omega)] at hE
      have he0 : ((L : Int) == 128 - (A : Int) % 128 + (N : Int) + 7) = true := by rw [beq_iff_eq]; omega
      clear hE HFL
      go_wp2_with fail
      refine (HN.out _).mono ?_
      rintro e w' ⟨rfl, rfl⟩
      go_wp2_with fail
      refine (HF.out _).mono ?_
      rintro e W3 ⟨rfl, hb3⟩
      have HB3 := Lib.hid (HB2.out.trans (hb3.mono hs2))
      clear hb3
      go_wp2
      go_ret
      exact ⟨rfl, HB3.out⟩
  · by_cases g2 : r < N
    · have hE := HFL.out
      rw [if_neg g1, if_neg (by omega)] at hE
      have he0 : ((L : Int) == (N : Int) + 7 * (1 + ((N : Int) - (r : Int) + 120) / 121)) = true := by rw [beq_iff_eq]; omega
      have he1 : ((L : Int) == 0 + (N : Int) + 7 * (1 + ((N : Int) - (r : Int) + 120) / 121)) = true := by rw [beq_iff_eq]; omega
      clear hE HFL
      go_wp2_with fail
      refine (HN.out _).mono ?_
      rintro e w' ⟨rfl, rfl⟩
      go_wp2_with fail
      refine (HF.out _).mono ?_
      rintro e W3 ⟨rfl, hb3⟩
      have HB3 := Lib.hid (HB2.out.trans (hb3.mono hs2))
      clear hb3
      go_wp2
      go_ret
      exact ⟨rfl, HB3.out⟩
    · have hE := HFL.out
      rw [if_neg g1, if_pos (by omega)] at hE
      have he0 : ((L : Int) == (N : Int) + 7) = true := by rw [beq_iff_eq]; omega
      have he1 : ((L : Int) == 0 + (N : Int) + 7) = true := by rw [beq_iff_eq]; omega
      clear hE HFL
      go_wp2_with fail
      refine (HN.out _).mono ?_
      rintro e w' ⟨rfl, rfl⟩
      go_wp2_with fail
      refine (HF.out _).mono ?_
      rintro e W3 ⟨rfl, hb3⟩
      have HB3 := Lib.hid (HB2.out.trans (hb3.mono hs2))
      clear hb3
      go_wp2
      go_ret
      exact ⟨rfl, HB3.out⟩
end frameRooms
end Go.Proofs.Ytdiehfjamnaoiaa
