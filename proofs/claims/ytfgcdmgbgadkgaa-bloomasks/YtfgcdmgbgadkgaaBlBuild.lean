/-
  What probe, inForm, Build and May answer.
-/
import Derived.Test.YtfgcdmgbgadkgaaBlHash
namespace Go.Proofs.Ytfgcdmgbgadkgaa
open Go.RowKit

/-- A number turned to the right by 17 bits. -/
def turn17 (h : Nat) : Nat := h / 131072 + h * 32768 % 4294967296
theorem turn17_lt (h : Nat) (hh : h < 4294967296) : turn17 h < 4294967296 := by unfold turn17; omega
theorem turn17_val (h : Nat) (hh : h < 4294967296) : bits .or .u32 ((h : Int) / 131072) ((h : Int) * 32768 % 4294967296) = ((turn17 h : Nat) : Int) := by
  have e1 : (h : Int) / 131072 = ((h / 131072 : Nat) : Int) := by omega
  have e2 : (h : Int) * 32768 % 4294967296 = ((h * 32768 % 4294967296 : Nat) : Int) := by omega
  rw [e1, e2]
  show IntKind.u32.wrap ((BitVec.ofInt 32 ((h / 131072 : Nat) : Int) ||| BitVec.ofInt 32 ((h * 32768 % 4294967296 : Nat) : Int)).toNat : Int) = _
  rw [BitVec.toNat_or, BitVec.ofInt_natCast, BitVec.ofInt_natCast, BitVec.toNat_ofNat, BitVec.toNat_ofNat, Nat.mod_eq_of_lt (by omega), Nat.mod_eq_of_lt (by omega), u32_val]
  have e3 : h / 131072 ||| h * 32768 % 4294967296 = turn17 h := by
    have h1 : h * 32768 % 4294967296 = 2 ^ 15 * (h % 131072) := by omega
    rw [h1, Nat.or_comm, ← Nat.two_pow_add_eq_or_of_lt (i := 15) (show h / 131072 < 2 ^ 15 by omega)]
    unfold turn17; omega
  rw [e3]
  have := turn17_lt h hh
  omega
/-- The bit of so many that is a key's probe. -/
def probeN (h i b : Nat) : Nat := (h + i * turn17 h) % 4294967296 % b
set_option maxRecDepth 100000 in
set_option maxHeartbeats 800000 in
theorem probe_any (h i b : Nat) (hh : h < 4294967296) (hi : i ≤ 255) (hb0 : 0 < b) (hb : b ≤ 9223372036854775807) (w : World) :
    Calls Try.prog 22 #[.int .u32 (h : Int), .int .i64 (i : Int), .int .i64 (b : Int)] w fun e w' => e = .returned (.int .i64 (probeN h i b : Int)) ∧ w = w' := by
  have HT := turn17_val h hh
  have ht := turn17_lt h hh
  have HV : Hid (((h : Int) + (i : Int) * (turn17 h : Int)) % 4294967296 % (b : Int) = ((probeN h i b : Nat) : Int)) := Lib.hid (by
    unfold probeN
    rw [Int.natCast_emod, Int.natCast_emod, Int.natCast_add, Int.natCast_mul]; rfl)
  generalize turn17 h = T at *
  go_enter Try.func22, Try.ntmps22
  go_wp2
  go_ret
  exact ⟨by rw [← HV.out]; rfl, rfl⟩
end Go.Proofs.Ytfgcdmgbgadkgaa
