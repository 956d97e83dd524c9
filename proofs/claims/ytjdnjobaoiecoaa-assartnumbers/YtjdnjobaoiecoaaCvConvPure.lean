/-
  The plain mathematics of numbers of so many bits.
-/
namespace Go.Proofs.Ytjdnjobaoiecoaa.CV

theorem kinds {k : Int} (h : 0 ≤ k ∧ k ≤ 7) : k = 0 ∨ k = 1 ∨ k = 2 ∨ k = 3 ∨ k = 4 ∨ k = 5 ∨ k = 6 ∨ k = 7 := by omega

/-- What is left of a number in a kind. -/
def fitI (kind x : Int) : Int :=
  if kind = 0 then (x + 128) % 256 - 128
  else if kind = 1 then (x + 32768) % 65536 - 32768
  else if kind = 2 then (x + 2147483648) % 4294967296 - 2147483648
  else if kind = 4 then x % 256
  else if kind = 5 then x % 65536
  else if kind = 6 then x % 4294967296
  else (x + 9223372036854775808) % 18446744073709551616 - 9223372036854775808
def widN (kind : Int) : Nat := if kind = 0 ∨ kind = 4 then 8 else if kind = 1 ∨ kind = 5 then 16 else if kind = 2 ∨ kind = 6 then 32 else 64
/-- The least and the greatest number of a kind that an int can be. -/
def loI (kind : Int) : Int := if kind = 0 then -128 else if kind = 1 then -32768 else if kind = 2 then -2147483648 else if kind = 3 then -9223372036854775808 else 0
def hiI (kind : Int) : Int := if kind = 0 then 127 else if kind = 1 then 32767 else if kind = 2 then 2147483647 else if kind = 4 then 255 else if kind = 5 then 65535 else if kind = 6 then 4294967295 else 9223372036854775807
def clampI (kind n : Int) : Int := if n < loI kind then loI kind else if hiI kind < n then hiI kind else n

theorem fit_congr {kind : Int} {x y : Int} (h : x % 18446744073709551616 = y % 18446744073709551616) : fitI kind x = fitI kind y := by
  unfold fitI; repeat' split
  all_goals omega
theorem fit_range {kind : Int} (x : Int) : -9223372036854775808 ≤ fitI kind x ∧ fitI kind x ≤ 9223372036854775807 := by
  unfold fitI; repeat' split
  all_goals omega
theorem fit_fit {kind : Int} (x : Int) : fitI kind (fitI kind x) = fitI kind x := by
  unfold fitI; repeat' split
  all_goals omega
theorem fit_two {kind : Int} (x : Int) : fitI kind (fitI kind x * 2) = fitI kind (x * 2) := by
  unfold fitI; repeat' split
  all_goals omega
theorem fit_sum {kind : Int} (x : Int) : fitI kind (fitI kind x + fitI kind x) = fitI kind (x * 2) := by
  rw [show fitI kind x + fitI kind x = fitI kind x * 2 by omega, fit_two]
theorem fit_less {one two : Int} (h1 : 0 ≤ one ∧ one ≤ 7) (h2 : 0 ≤ two ∧ two ≤ 7) (h : widN two ≤ widN one) (x : Int) : fitI two (fitI one x) = fitI two x := by
  rcases kinds h1 with rfl | rfl | rfl | rfl | rfl | rfl | rfl | rfl <;> rcases kinds h2 with rfl | rfl | rfl | rfl | rfl | rfl | rfl | rfl
  all_goals first
    | (exfalso; revert h; decide)
    | (simp only [fitI]; simp <;> omega)
theorem clamp_fit {kind : Int} (hk : 0 ≤ kind ∧ kind ≤ 7) (n : Int) : fitI kind (clampI kind n) = clampI kind n := by
  rcases kinds hk with rfl | rfl | rfl | rfl | rfl | rfl | rfl | rfl <;> (simp only [fitI, clampI, loI, hiI]; simp; repeat' split) <;> omega
theorem wid_le (kind : Int) : widN kind = 8 ∨ widN kind = 16 ∨ widN kind = 32 ∨ widN kind = 64 := by
  unfold widN; repeat' split
  all_goals simp
/-- Two numbers that have the same bits have the same number of a kind. -/
theorem fit_mod {kind : Int} (hk : 0 ≤ kind ∧ kind ≤ 7) {x y : Int} (h : x % (2 ^ widN kind : Nat) = y % (2 ^ widN kind : Nat)) : fitI kind x = fitI kind y := by
  rcases kinds hk with rfl | rfl | rfl | rfl | rfl | rfl | rfl | rfl <;> (simp [widN] at h; simp only [fitI]; simp; omega)
theorem fit_emod {kind : Int} (hk : 0 ≤ kind ∧ kind ≤ 7) (x : Int) : fitI kind x % (2 ^ widN kind : Nat) = x % (2 ^ widN kind : Nat) := by
  rcases kinds hk with rfl | rfl | rfl | rfl | rfl | rfl | rfl | rfl <;> (simp [widN]; simp only [fitI]; simp <;> omega)
theorem fit_ext {kind : Int} (hk : 0 ≤ kind ∧ kind ≤ 7) {x y : Nat} (h : ∀ i, i < widN kind → x.testBit i = y.testBit i) : fitI kind (x : Int) = fitI kind (y : Int) := by
  apply fit_mod hk
  have : x % 2 ^ widN kind = y % 2 ^ widN kind := by
    apply Nat.eq_of_testBit_eq; intro i
    rw [Nat.testBit_mod_two_pow, Nat.testBit_mod_two_pow]
    by_cases e : i < widN kind
    · rw [h i e]
    · simp [e]
  rw [← Int.natCast_emod, ← Int.natCast_emod, this]

/-- The number from 0 on that an int is in sixty-four bits. -/
def uN (n : Int) : Nat := (n % 18446744073709551616).toNat
theorem uN_val (n : Int) : (uN n : Int) = n % 18446744073709551616 := by unfold uN; omega
theorem uN_lt (n : Int) : uN n < 18446744073709551616 := by unfold uN; omega
theorem fit_uN {kind : Int} (n : Int) : fitI kind (uN n : Int) = fitI kind n := fit_congr (by rw [uN_val]; omega)
theorem uN_fit {kind : Int} (hk : 0 ≤ kind ∧ kind ≤ 7) (x : Int) (i : Nat) (hi : i < widN kind) : (uN (fitI kind x)).testBit i = (uN x).testBit i := by
  have h := fit_emod hk x
  have e : uN (fitI kind x) % 2 ^ widN kind = uN x % 2 ^ widN kind := by
    have h1 : ((uN (fitI kind x) % 2 ^ widN kind : Nat) : Int) = ((uN x % 2 ^ widN kind : Nat) : Int) := by
      rw [Int.natCast_emod, Int.natCast_emod, uN_val, uN_val]
      rcases wid_le kind with e | e | e | e <;> rw [e] at h ⊢ <;> simp at h ⊢ <;> omega
    exact Int.ofNat.inj h1
  have h2 := congrArg (fun z => Nat.testBit z i) e
  simp only [Nat.testBit_mod_two_pow] at h2
  simpa [hi] using h2

/-- Bytes put in from below. -/
def swp (x : Nat) : Nat → Nat
  | 0 => 0
  | j + 1 => swp x j * 256 + x / 256 ^ j % 256
theorem swp_lt (x j : Nat) : swp x j < 256 ^ j := by
  induction j with
  | zero => simp [swp]
  | succ j ih =>
    show swp x j * 256 + _ < 256 ^ j * 256
    have : x / 256 ^ j % 256 < 256 := Nat.mod_lt _ (by omega)
    omega
theorem swp_bit (x j i : Nat) : (swp x j).testBit i = (decide (i < 8 * j) && x.testBit (8 * (j - 1 - i / 8) + i % 8)) := by
  induction j generalizing i with
  | zero => simp [swp]
  | succ j ih =>
    show (swp x j * 256 + x / 256 ^ j % 256).testBit i = _
    have e : swp x j * 256 + x / 256 ^ j % 256 = 2 ^ 8 * swp x j ||| (x / 256 ^ j % 2 ^ 8) := by
      rw [← Nat.two_pow_add_eq_or_of_lt (Nat.mod_lt _ (by decide))]; omega
    rw [e, Nat.testBit_or, Nat.testBit_two_pow_mul, Nat.testBit_mod_two_pow]
    have e2 : (256 : Nat) ^ j = 2 ^ (8 * j) := by rw [Nat.pow_mul]
    rw [e2, Nat.testBit_div_two_pow]
    by_cases h : i < 8
    · have e3 : j + 1 - 1 - i / 8 = j := by omega
      rw [e3, show i % 8 = i by omega]
      have : ¬ (i ≥ 8) := by omega
      simp [h, this, show i < 8 * (j + 1) by omega]
      rw [Nat.add_comm]
    · rw [ih]
      have h1 : decide (i < 8) = false := decide_eq_false h
      have h2 : decide (i ≥ 8) = true := decide_eq_true (by omega)
      rw [h1, h2, Bool.true_and, Bool.false_and, Bool.or_false, show (i - 8) % 8 = i % 8 by omega, show j - 1 - (i - 8) / 8 = j + 1 - 1 - i / 8 by omega]
      rw [show decide (i - 8 < 8 * j) = decide (i < 8 * (j + 1)) from decide_eq_decide.2 (by omega)]
/-- Where a bit goes when bytes are swapped. -/
theorem swp_twice (x j i : Nat) (hi : i < 8 * j) : (swp (swp x j) j).testBit i = x.testBit i := by
  rw [swp_bit, swp_bit, decide_eq_true hi, Bool.true_and]
  have h1 : 8 * (j - 1 - i / 8) + i % 8 < 8 * j := by omega
  rw [decide_eq_true h1, Bool.true_and]
  congr 1; omega
theorem swp_congr (x y j : Nat) (h : ∀ i, i < 8 * j → x.testBit i = y.testBit i) : swp x j = swp y j := by
  apply Nat.eq_of_testBit_eq; intro i
  rw [swp_bit, swp_bit]
  by_cases e : i < 8 * j
  · rw [h _ (by omega)]
  · simp [e]

/-- Bits turned round. -/
def rotN (b x u : Nat) : Nat := x * 2 ^ u ||| x / 2 ^ (b - u)
theorem rot_bit (b x u : Nat) (hx : x < 2 ^ b) (hu : u < b) (i : Nat) (hi : i < b) : (rotN b x u).testBit i = x.testBit ((i + (b - u)) % b) := by
  unfold rotN
  rw [Nat.testBit_or, Nat.testBit_mul_two_pow, Nat.testBit_div_two_pow]
  by_cases h : u ≤ i
  · have h1 : x.testBit (i + (b - u)) = false := Nat.testBit_lt_two_pow (Nat.lt_of_lt_of_le hx (Nat.pow_le_pow_right (by omega) (by omega)))
    rw [show (i + (b - u)) % b = i - u by rw [show i + (b - u) = (i - u) + b by omega, Nat.add_mod_right, Nat.mod_eq_of_lt (by omega)]]
    simp [h, h1]
  · rw [show (i + (b - u)) % b = i + (b - u) from Nat.mod_eq_of_lt (by omega)]
    simp [h]

/-- Bits that are moved down. -/
def rightI (kind n : Int) (m : Nat) : Int := if kind = 7 then fitI 7 ((uN n / 2 ^ min m 64 : Nat) : Int) else fitI kind n / 2 ^ min m 64
def turnI (kind n by_ : Int) : Int := fitI kind ((rotN (widN kind) (uN n % 2 ^ widN kind) ((by_ % (widN kind : Nat)).toNat) : Nat) : Int)
end Go.Proofs.Ytjdnjobaoiecoaa.CV
