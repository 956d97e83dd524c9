/-
  The plain mathematics of AssartNumbers: bytes of a number the other way round; a mask as a turn and a sum.
-/
import Derived.Test.YtjdnjobaoiecoaaCvConvPure
import Derived.Test.YtjdnjobaoiecoaaCrCrcPure
namespace Go.Proofs.Ytjdnjobaoiecoaa

/-- The bytes of what is swapped. -/
theorem swp_byte (x i : Nat) (hi : i < 8) : CV.swp x 8 / 2 ^ (8 * (7 - i)) % 256 = x / 2 ^ (8 * i) % 256 := by
  apply Nat.eq_of_testBit_eq
  intro t
  rw [show (256 : Nat) = 2 ^ 8 from rfl, Nat.testBit_mod_two_pow, Nat.testBit_mod_two_pow, Nat.testBit_div_two_pow, Nat.testBit_div_two_pow]
  by_cases ht : t < 8
  · rw [CV.swp_bit, decide_eq_true ht, decide_eq_true (show t + 8 * (7 - i) < 8 * 8 by omega), Bool.true_and, Bool.true_and, Bool.true_and]
    congr 1
    omega
  · rw [decide_eq_false ht, Bool.false_and, Bool.false_and]
theorem turn_mask (n : Nat) (h : n < 4294967296) : CV.turnI 6 (n : Int) (-15) = ((n % 32768 * 131072 + n / 32768 : Nat) : Int) := by
  have hu : CV.uN (n : Int) = n := by unfold CV.uN; omega
  have hw : CV.widN 6 = 32 := rfl
  have hr : ((-15 : Int) % (32 : Nat)).toNat = 17 := by decide
  unfold CV.turnI
  rw [hw, hu, hr, Nat.mod_eq_of_lt (show n < 2 ^ 32 by omega)]
  have hlt : n / 32768 < 2 ^ 17 := by omega
  have e : CV.rotN 32 n 17 = n * 2 ^ 17 + n / 32768 := by
    unfold CV.rotN
    show n * 2 ^ 17 ||| n / 2 ^ 15 = _
    rw [show n / 2 ^ 15 = n / 32768 from rfl, Nat.mul_comm n, ← Nat.two_pow_add_eq_or_of_lt hlt]
  rw [e]
  unfold CV.fitI
  simp
  omega
theorem mask_sum (n : Nat) (h : n < 4294967296) : CV.fitI 6 (CV.turnI 6 (n : Int) (-15) + 2726488792) = (((n % 32768 * 131072 + n / 32768 + 2726488792) % 4294967296 : Nat) : Int) := by
  rw [turn_mask n h]
  unfold CV.fitI
  simp
end Go.Proofs.Ytjdnjobaoiecoaa
