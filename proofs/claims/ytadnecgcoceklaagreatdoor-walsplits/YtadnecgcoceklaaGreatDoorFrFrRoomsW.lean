/-
  The law FrameRooms, walked.
-/
import Derived.Test.YtadnecgcoceklaaGreatDoorFrFrFr
namespace Go.Proofs.YtadnecgcoceklaaGreatDoor.FR
open Go.RowKit

theorem modM (x : Int) (n : Nat) (hp : 0 < n) (hb : n ≤ 9223372036854775807) : ∃ k : Nat, k < n ∧ wrap64 ((IntKind.u64.wrap x).tmod (n : Int)) = (k : Int) := by
  have h0 : 0 ≤ IntKind.u64.wrap x := by rw [u64_val]; omega
  rw [Int.tmod_eq_emod_of_nonneg h0]
  generalize IntKind.u64.wrap x = y at h0
  have h1 := Int.emod_nonneg y (show ((n : Nat) : Int) ≠ 0 by omega)
  have h2 := Int.emod_lt_of_pos y (show (0 : Int) < ((n : Nat) : Int) by omega)
  refine ⟨(y % ((n : Nat) : Int)).toNat, by omega, ?_⟩
  generalize y % ((n : Nat) : Int) = z at *
  unfold wrap64; omega
theorem tail_len : ∀ rec : List Nat, 0 < rec.length → (Frm.tailP rec).length = rec.length + 7 * ((rec.length + 120) / 121) := by
  refine Frm.tail_ind (fun r h h0 => ?_) (fun r h ih h0 => ?_)
  · rw [Frm.tailP_last h, Frm.pieceL_length]; omega
  · rw [Frm.tailP_more h, List.length_append, Frm.pieceL_length, List.length_take, ih (by rw [List.length_drop]; omega), List.length_drop]; omega
theorem frame_len (n : Nat) (rec : List Nat) : (Frm.frameL n rec).length = Frm.gap n + rec.length + 7 * (if rec.length ≤ Frm.room n then 1 else 1 + (rec.length - Frm.room n + 120) / 121) := by
  unfold Frm.frameL Frm.bodyL
  have hr := Frm.room_le n
  by_cases h : rec.length ≤ Frm.room n
  · rw [if_neg (by omega), if_pos h, List.length_append, Frm.pieceL_length, List.length_replicate]; omega
  · rw [if_pos (by omega), if_neg h, List.length_append, List.length_append, Frm.pieceL_length, List.length_replicate, tail_len _ (by rw [List.length_drop]; omega), List.length_take, List.length_drop]; omega
theorem gap_pad (n : Nat) : Frm.gap n = if 121 < n % 128 then 128 - n % 128 else 0 := by unfold Frm.gap Frm.left; split <;> split <;> omega
namespace frameRooms
end frameRooms
end Go.Proofs.YtadnecgcoceklaaGreatDoor.FR
