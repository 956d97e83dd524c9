/-
  The plain mathematics of numbers as bytes.
-/
namespace Go.Proofs.Ythpcgdgahlcblaa.VA

/-- A number's bytes, seven bits to a byte. -/
def putL (n : Nat) : List Nat := if h : n < 128 then [n] else (n % 128 + 128) :: putL (n / 128)
termination_by n
decreasing_by omega
theorem putL_lt {n : Nat} (h : n < 128) : putL n = [n] := by rw [putL]; simp [h]
theorem putL_ge {n : Nat} (h : 128 ≤ n) : putL n = (n % 128 + 128) :: putL (n / 128) := by rw [putL]; simp [show ¬ n < 128 by omega]
theorem putL_byte (n : Nat) : ∀ x ∈ putL n, x < 256 := by
  induction n using putL.induct with
  | case1 n h => rw [putL_lt h]; simp; omega
  | case2 n h ih => rw [putL_ge (by omega)]; intro x hx; simp at hx; rcases hx with rfl | hx
                    · omega
                    · exact ih x hx
theorem putL_len (k n : Nat) (hk : 1 ≤ k) (h : n < 128 ^ k) : (putL n).length ≤ k ∧ 1 ≤ (putL n).length := by
  induction k generalizing n with
  | zero => omega
  | succ k ih =>
    by_cases h1 : n < 128
    · rw [putL_lt h1]; simp
    · rw [putL_ge (by omega)]
      have hk1 : 1 ≤ k := by
        rcases Nat.eq_zero_or_pos k with e | e
        · subst e; simp at h; omega
        · exact e
      have := ih (n / 128) hk1 (Nat.div_lt_of_lt_mul (by rw [Nat.pow_succ, Nat.mul_comm] at h; exact h))
      simp; omega
theorem putL_len10 (n : Nat) (h : n < 18446744073709551616) : (putL n).length ≤ 10 ∧ 1 ≤ (putL n).length :=
  putL_len 10 n (by omega) (Nat.lt_of_lt_of_le h (by decide))

/-- What Get tells of bytes, from place i on, with what is known already. -/
def getF (i acc : Nat) : List Nat → Nat × Nat × Nat
  | [] => (0, 0, 9)
  | c :: l =>
    if 10 ≤ i then (0, 0, 9)
    else if i = 9 ∧ 1 < c then (0, 0, 2)
    else if 128 ≤ c then getF (i + 1) (acc + c % 128 * 2 ^ (7 * i)) l
    else if c = 0 ∧ 0 < i then (0, 0, 2)
    else (acc + c % 128 * 2 ^ (7 * i), i + 1, 0)
def getS (l : List Nat) : Nat × Nat × Nat := getF 0 0 l

theorem getF_end (i acc : Nat) (l : List Nat) (h : 10 ≤ i ∨ l = []) : getF i acc l = (0, 0, 9) := by
  cases l with
  | nil => rfl
  | cons c l => unfold getF; rw [if_pos (h.resolve_right (by simp))]
theorem getF_err (i acc : Nat) (l : List Nat) (h : (getF i acc l).2.2 ≠ 0) : (getF i acc l).1 = 0 ∧ (getF i acc l).2.1 = 0 := by
  induction l generalizing i acc with
  | nil => exact ⟨rfl, rfl⟩
  | cons c l ih =>
    unfold getF at h ⊢
    by_cases h1 : 10 ≤ i
    · simp [h1]
    · by_cases h2 : i = 9 ∧ 1 < c
      · rw [if_neg h1, if_pos h2]; exact ⟨rfl, rfl⟩
      · by_cases h3 : 128 ≤ c
        · rw [if_neg h1, if_neg h2, if_pos h3] at h ⊢; exact ih _ _ h
        · by_cases h4 : c = 0 ∧ 0 < i
          · rw [if_neg h1, if_neg h2, if_neg h3, if_pos h4]; exact ⟨rfl, rfl⟩
          · rw [if_neg h1, if_neg h2, if_neg h3, if_neg h4] at h; exact absurd rfl h

/-- What is put is got. -/
theorem getF_put (i acc n : Nat) (rest : List Nat) (hi : i ≤ 9) (hn : n * 2 ^ (7 * i) < 18446744073709551616) (h0 : 0 < i → 0 < n) :
    getF i acc (putL n ++ rest) = (acc + n * 2 ^ (7 * i), i + (putL n).length, 0) := by
  induction n using putL.induct generalizing i acc with
  | case1 n h =>
    rw [putL_lt h]
    simp only [List.cons_append, List.nil_append, getF]
    have h9 : ¬ (i = 9 ∧ 1 < n) := by
      rintro ⟨rfl, h2⟩
      have : 2 * 2 ^ (7 * 9) ≤ n * 2 ^ (7 * 9) := Nat.mul_le_mul_right _ h2
      omega
    rw [if_neg (by omega), if_neg h9, if_neg (by omega), if_neg (by omega), Nat.mod_eq_of_lt h]; rfl
  | case2 n h ih =>
    rw [putL_ge (by omega)]
    simp only [List.cons_append, getF]
    have hi8 : i ≤ 8 := by
      rcases Nat.lt_or_ge i 9 with h9 | h9
      · omega
      · have : i = 9 := by omega
        subst this
        have : 128 * 2 ^ (7 * 9) ≤ n * 2 ^ (7 * 9) := Nat.mul_le_mul_right _ (by omega)
        omega
    have e : 2 ^ (7 * (i + 1)) = 128 * 2 ^ (7 * i) := by rw [Nat.mul_add, Nat.pow_add, Nat.mul_comm]
    have hd : n = n % 128 + 128 * (n / 128) := by omega
    have hmul : n * 2 ^ (7 * i) = n % 128 * 2 ^ (7 * i) + n / 128 * 2 ^ (7 * (i + 1)) := by
      rw [e, Nat.mul_left_comm, ← Nat.mul_assoc 128, ← Nat.add_mul, ← hd]
    rw [if_neg (by omega), if_neg (by omega), if_pos (by omega), ih (i + 1) _ (by omega) (by omega) (fun _ => by omega)]
    rw [show (n % 128 + 128) % 128 = n % 128 by omega]
    refine Prod.ext ?_ (Prod.ext ?_ rfl)
    · simp only []; omega
    · simp only [List.length_cons]; omega
theorem getS_put (n : Nat) (rest : List Nat) (hn : n < 18446744073709551616) : getS (putL n ++ rest) = (n, (putL n).length, 0) := by
  have := getF_put 0 0 n rest (by omega) (by simpa using hn) (fun h => by omega)
  simpa [getS] using this

/-- Signed numbers, folded. -/
def foldN (m : Int) : Nat := if m < 0 then (2 * (-(m + 1)) + 1).toNat else (2 * m).toNat
def unfoldI (n : Nat) : Int := if n % 2 = 1 then -((n / 2 : Nat) : Int) - 1 else ((n / 2 : Nat) : Int)
theorem fold_lt (m : Int) (h : -9223372036854775808 ≤ m ∧ m ≤ 9223372036854775807) : foldN m < 18446744073709551616 := by unfold foldN; split <;> omega
theorem unfold_fold (m : Int) : unfoldI (foldN m) = m := by unfold unfoldI foldN; split <;> split <;> omega
theorem fold_unfold (n : Nat) : foldN (unfoldI n) = n := by unfold unfoldI foldN; split <;> split <;> omega
theorem putL_inj {a b : Nat} (ha : a < 18446744073709551616) (hb : b < 18446744073709551616) (h : putL a = putL b) : a = b := by
  have h1 := getS_put a [] ha
  have h2 := getS_put b [] hb
  rw [h, h2] at h1
  exact (congrArg Prod.fst h1).symm
theorem putL_mono (a b : Nat) (h : a ≤ b) : (putL a).length ≤ (putL b).length := by
  induction b using putL.induct generalizing a with
  | case1 b hb => rw [putL_lt hb, putL_lt (by omega)]; simp
  | case2 b hb ih =>
    by_cases ha : a < 128
    · rw [putL_lt ha, putL_ge (by omega)]; simp
    · rw [putL_ge (n := a) (by omega), putL_ge (n := b) (by omega)]
      have := ih (a / 128) (by omega)
      simpa using this
/-- All bytes but the last say that there is more. -/
theorem putL_more (n i : Nat) (hi : i < (putL n).length) : (128 ≤ (putL n)[i]) = (i < (putL n).length - 1) := by
  induction n using putL.induct generalizing i with
  | case1 n h => simp only [putL_lt h] at hi ⊢; simp at hi; subst hi; simp; omega
  | case2 n h ih =>
    have e := putL_ge (n := n) (by omega)
    simp only [e] at hi ⊢
    cases i with
    | zero =>
      have := (putL_len (n / 128 + 1) (n / 128) (by omega) (Nat.lt_of_lt_of_le (Nat.lt_two_pow_self) (Nat.le_trans (Nat.pow_le_pow_right (by omega) (Nat.le_succ _)) (Nat.pow_le_pow_left (by omega) _)))).2
      simp; omega
    | succ i =>
      simp at hi
      have := ih i hi
      simp only [List.getElem_cons_succ, List.length_cons]
      rw [this]; simp; omega
end Go.Proofs.Ythpcgdgahlcblaa.VA
