/-
  Bits and bytes of filters, without the program.
-/
import Derived.Test.YtfgcdmgbgadkgaaBlHash
namespace Go.Proofs.Ytfgcdmgbgadkgaa

/-- What the first bits make. -/
def bitsTo (f : Nat → Bool) : Nat → Nat
  | 0 => 0
  | k + 1 => bitsTo f k + (if f k then 2 ^ k else 0)
theorem bitsTo_lt (f : Nat → Bool) (n : Nat) : bitsTo f n < 2 ^ n := by
  induction n with
  | zero => simp [bitsTo]
  | succ n ih =>
    show bitsTo f n + (if f n then 2 ^ n else 0) < 2 ^ (n + 1)
    rw [Nat.pow_succ]
    split <;> omega
theorem bitsTo_test (f : Nat → Bool) (n k : Nat) : (bitsTo f n).testBit k = (decide (k < n) && f k) := by
  induction n with
  | zero => simp [bitsTo]
  | succ n ih =>
    show (bitsTo f n + (if f n then 2 ^ n else 0)).testBit k = _
    have hlt := bitsTo_lt f n
    by_cases hf : f n = true
    · rw [if_pos hf]
      rcases Nat.lt_trichotomy k n with h | h | h
      · rw [Nat.add_comm, Nat.testBit_two_pow_add_gt h, ih]
        simp [h, Nat.lt_succ_of_lt h]
      · subst h
        rw [Nat.add_comm, Nat.testBit_two_pow_add_eq, Nat.testBit_lt_two_pow hlt]
        simp [hf]
      · rw [Nat.testBit_lt_two_pow]
        · simp; omega
        · have : 2 ^ (n + 1) ≤ 2 ^ k := Nat.pow_le_pow_right (by omega) (by omega)
          rw [Nat.pow_succ] at this; omega
    · rw [if_neg hf, Nat.add_zero, ih]
      rcases Nat.lt_trichotomy k n with h | h | h
      · simp [h, Nat.lt_succ_of_lt h]
      · subst h; simp [hf]
      · have h1 : ¬ k < n := by omega
        have h2 : ¬ k < n + 1 := by omega
        simp [h1, h2]
def byteS (S : Nat → Bool) (j : Nat) : Nat := bitsTo (fun k => S (8 * j + k)) 8
theorem byteS_lt (S : Nat → Bool) (j : Nat) : byteS S j < 256 := bitsTo_lt _ 8
theorem byteS_test (S : Nat → Bool) (j k : Nat) : (byteS S j).testBit k = (decide (k < 8) && S (8 * j + k)) := bitsTo_test _ 8 k
theorem byteS_congr {S T : Nat → Bool} {j : Nat} (h : ∀ k, k < 8 → S (8 * j + k) = T (8 * j + k)) : byteS S j = byteS T j := by
  apply Nat.eq_of_testBit_eq
  intro k
  rw [byteS_test, byteS_test]
  by_cases hk : k < 8
  · rw [h k hk]
  · simp [hk]
theorem byteS_or (S T : Nat → Bool) (j : Nat) : byteS (fun m => S m || T m) j = byteS S j ||| byteS T j := by
  apply Nat.eq_of_testBit_eq
  intro k
  rw [Nat.testBit_or, byteS_test, byteS_test, byteS_test, Bool.and_or_distrib_left]
theorem byteS_none (j : Nat) : byteS (fun _ => false) j = 0 := by
  apply Nat.eq_of_testBit_eq
  intro k
  rw [byteS_test]; simp
theorem byteS_put (S : Nat → Bool) (n j : Nat) : byteS (fun m => S m || m == n) j = if j = n / 8 then byteS S j ||| 2 ^ (n % 8) else byteS S j := by
  apply Nat.eq_of_testBit_eq
  intro k
  split
  · rename_i h
    subst h
    rw [Nat.testBit_or, byteS_test, byteS_test, Nat.testBit_two_pow, Bool.and_or_distrib_left]
    congr 1
    by_cases hk : k < 8
    · rw [Bool.eq_iff_iff]; simp [hk]; omega
    · rw [Bool.eq_iff_iff]; simp [hk]; omega
  · rename_i h
    rw [byteS_test, byteS_test]
    by_cases hk : k < 8
    · have : (8 * j + k == n) = false := by rw [beq_eq_false_iff_ne]; omega
      rw [this, Bool.or_false]
    · simp [hk]
theorem or_lt {a b : Nat} (ha : a < 256) (hb : b < 256) : a ||| b < 256 := Nat.or_lt_two_pow (n := 8) ha hb
theorem pow_lt8 (n : Nat) : 2 ^ (n % 8) < 256 := by
  have : 2 ^ (n % 8) ≤ 2 ^ 7 := Nat.pow_le_pow_right (by omega) (by omega)
  omega
/-- A bit of some bytes. -/
def bitL (l : List Nat) (n : Nat) : Bool := (l.getD (n / 8) 0).testBit (n % 8)
theorem bitL_map (S : Nat → Bool) (c size n : Nat) (h : n < 8 * size) : bitL ((List.range size).map (byteS S) ++ [c]) n = S n := by
  unfold bitL
  have h1 : n / 8 < size := by omega
  rw [List.getD_eq_getElem?_getD, List.getElem?_append_left (by simpa using h1)]
  simp [h1]
  rw [byteS_test, show 8 * (n / 8) + n % 8 = n by omega]
  simp; omega
theorem byte_bits (l : List Nat) (hb : ∀ x ∈ l, x < 256) (j : Nat) (hj : j < l.length) : byteS (bitL l) j = l[j] := by
  apply Nat.eq_of_testBit_eq
  intro k
  rw [byteS_test]
  by_cases hk : k < 8
  · unfold bitL
    rw [show (8 * j + k) / 8 = j by omega, show (8 * j + k) % 8 = k by omega, List.getD_eq_getElem?_getD, List.getElem?_eq_getElem hj]
    simp [hk]
  · have hx := hb l[j] (List.getElem_mem hj)
    have : 2 ^ 8 ≤ 2 ^ k := Nat.pow_le_pow_right (by omega) (by omega)
    rw [Nat.testBit_lt_two_pow (by omega)]; simp [hk]
/-- The bits of bytes that are made one bit after the other. -/
def outAt (on : Nat → Bool) (i j : Nat) : Nat := bitsTo (fun k => on (8 * j + k)) (min 8 (i - 8 * j))
theorem outAt_zero (on : Nat → Bool) (j : Nat) : outAt on 0 j = 0 := by simp [outAt, bitsTo]
theorem outAt_full (on : Nat → Bool) (i j : Nat) (h : 8 * j + 8 ≤ i) : outAt on i j = byteS on j := by
  unfold outAt byteS; rw [show min 8 (i - 8 * j) = 8 by omega]
theorem outAt_succ (on : Nat → Bool) (i j : Nat) : outAt on (i + 1) j = if j = i / 8 then outAt on i j + (if on i then 2 ^ (i % 8) else 0) else outAt on i j := by
  unfold outAt
  split
  · rename_i h
    subst h
    rw [show min 8 (i + 1 - 8 * (i / 8)) = i % 8 + 1 by omega, show min 8 (i - 8 * (i / 8)) = i % 8 by omega]
    show bitsTo _ (i % 8) + (if on (8 * (i / 8) + i % 8) then 2 ^ (i % 8) else 0) = _
    rw [show 8 * (i / 8) + i % 8 = i by omega]
  · rename_i h
    by_cases h1 : j < i / 8
    · rw [show min 8 (i + 1 - 8 * j) = 8 by omega, show min 8 (i - 8 * j) = 8 by omega]
    · rw [show min 8 (i + 1 - 8 * j) = 0 by omega, show min 8 (i - 8 * j) = 0 by omega]
theorem outAt_lt (on : Nat → Bool) (i j : Nat) : outAt on i j < 256 := by
  have h := bitsTo_lt (fun k => on (8 * j + k)) (min 8 (i - 8 * j))
  have : 2 ^ (min 8 (i - 8 * j)) ≤ 2 ^ 8 := Nat.pow_le_pow_right (by omega) (by omega)
  unfold outAt; omega
theorem outAt_part (on : Nat → Bool) (i : Nat) : outAt on i (i / 8) < 2 ^ (i % 8) := by
  have h := bitsTo_lt (fun k => on (8 * (i / 8) + k)) (min 8 (i - 8 * (i / 8)))
  unfold outAt
  rwa [show min 8 (i - 8 * (i / 8)) = i % 8 by omega] at h ⊢
end Go.Proofs.Ytfgcdmgbgadkgaa
