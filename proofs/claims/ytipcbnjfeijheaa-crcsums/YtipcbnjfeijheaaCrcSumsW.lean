/-
  The law CrcSums, walked.
-/
import Derived.Test.YtipcbnjfeijheaaCrcRow
import Derived.Deep.RegionWith
import Derived.BigRegion
namespace Go.Proofs.Ytipcbnjfeijheaa.crcSums
open Go.RowKit

theorem bv_of_nat {n : Nat} (h : n < 4294967296) : ∃ r : BitVec 32, r.toNat = n := ⟨BitVec.ofNat 32 n, by rw [BitVec.toNat_ofNat]; omega⟩

theorem rsumL (l : List (BitVec 8)) (w : World) (hm : l.length ≤ maxLen) :
    Calls Try.prog 10 #[.string (strOf l)] w fun e w' => e = .returned (.int .u32 ((Crc.sum l).toNat : Int)) ∧ w = w' := by
  have h := rsum_any (strOf l) w (by rw [strOf_size]; exact hm)
  rw [bytesOf_strOf] at h; exact h
theorem rmoreL (r : BitVec 32) (l : List (BitVec 8)) (w : World) (hm : l.length ≤ maxLen) :
    Calls Try.prog 12 #[.int .u32 (r.toNat : Int), .string (strOf l)] w fun e w' => e = .returned (.int .u32 ((Crc.more r l).toNat : Int)) ∧ w = w' := by
  have h := rmore_any r (strOf l) w (by rw [strOf_size]; exact hm)
  rw [bytesOf_strOf] at h; exact h
set_option maxRecDepth 100000 in
set_option maxHeartbeats 8000000 in
theorem walk (a0 : Option Addr) (len0 cap0 : Nat) (z0 : List Int) (a1 : Int) (w : World) (w0 : IsRow .u8 w a0 len0 cap0 z0) (w1 : (Lit.int .u32 a1).wf = true) :
    Calls Try.prog 3 #[.slice a0 len0 cap0, .int .u32 a1] w fun e w' => e = .returned (.bool true) ∧ Below w.heap.size w w' := by
  obtain ⟨n, rfl, hn⟩ := wf_u32 w1
  obtain ⟨r, rfl⟩ := bv_of_nat hn
  have hnil : a0 = none → len0 = 0 := by
    rintro rfl; rcases w0 with ⟨_, h, _⟩ | ⟨x, h, _⟩
    · exact h
    · cases h
  obtain ⟨l, rfl, hl, h1, h2⟩ := w0.byt
  have hm : l.length ≤ maxLen := by omega
  have hnil2 : a0 = none → l = [] := fun h => List.length_eq_zero_iff.1 (hnil h)
  have HN := Lib.hid hnil2
  have HL := Lib.hid hl
  clear hnil hnil2 w0 w1 hl
  go_enter Try.func3, Try.ntmps3
  go_wp2_with fail
  go_region_with (first
    | (go_at_call 8; (with_reducible refine (sums_any _).mono ?_); rintro e wa ⟨rfl, hb⟩; have hLa := Byt.keep HL.out.drew hb; have hcv := conv_bytes hLa HN.out cap0)
    | (go_at_call 9; (with_reducible refine (sum_any wa a0 cap0 l hLa hm).mono ?_); rintro e w' ⟨rfl, rfl⟩)
    | (go_at_call 11; (with_reducible refine (more_any r wa a0 cap0 l hLa hm).mono ?_); rintro e w' ⟨rfl, rfl⟩)
    | (go_at_call 10; (with_reducible refine (rsumL l wa hm).mono ?_); rintro e w' ⟨rfl, rfl⟩)
    | (go_at_call 12; (with_reducible refine (rmoreL r l wa hm).mono ?_); rintro e w' ⟨rfl, rfl⟩))
  all_goals
    go_wp2
    go_ret
    exact ⟨rfl, ((Below.refl _ w).drew).trans hb⟩
end Go.Proofs.Ytipcbnjfeijheaa.crcSums
