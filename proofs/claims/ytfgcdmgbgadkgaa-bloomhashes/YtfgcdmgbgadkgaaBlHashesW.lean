/-
  The law BloomHashes, walked.
-/
import Derived.Test.YtfgcdmgbgadkgaaBlRHash
namespace Go.Proofs.Ytfgcdmgbgadkgaa
open Go.RowKit
namespace bloomHashes
set_option maxRecDepth 100000 in
set_option maxHeartbeats 800000 in
theorem walk (key : ByteArray) (w : World) (w0 : key.size ≤ maxLen) :
    Calls Try.prog 3 #[.string key] w fun e w' => e = .returned (.bool true) ∧ Below w.heap.size w w' := by
  have hks : key.size ≤ 9223372036854775807 := by unfold maxLen at w0; omega
  have H1 : Hid (∀ wx, Calls Try.prog 11 #[.string key] wx fun e w' => e = .returned (.int .u32 (hashN (natsOf key) : Int)) ∧ Below wx.heap.size wx w') := Lib.hid (hash_any key hks)
  have H2 : Hid (∀ wx, Calls Try.prog 12 #[.string key] wx fun e w' => e = .returned (.int .u32 (hashN (natsOf key) : Int)) ∧ Below wx.heap.size wx w') := Lib.hid (rhash_any key hks)
  generalize hashN (natsOf key) = h at *
  have hq : ((h : Int) == (h : Int)) = true := by simp
  go_enter Try.func3, Try.ntmps3
  go_wp2_with fail
  refine (blooms_any _).mono ?_
  rintro e w1 ⟨rfl, hb1⟩
  have B1 := Lib.hid hb1
  clear hb1
  go_wp2_with fail
  refine (H1.out _).mono ?_
  rintro e w2 ⟨rfl, hb2⟩
  have B2 := Lib.hid (B1.out.trans (hb2.mono B1.out.size))
  clear hb2
  go_wp2_with fail
  refine (H2.out _).mono ?_
  rintro e w3 ⟨rfl, hb3⟩
  have B3 := Lib.hid (B2.out.trans (hb3.mono B2.out.size))
  clear hb3
  go_wp2
  go_ret
  exact ⟨rfl, B3.out⟩
end bloomHashes
end Go.Proofs.Ytfgcdmgbgadkgaa
