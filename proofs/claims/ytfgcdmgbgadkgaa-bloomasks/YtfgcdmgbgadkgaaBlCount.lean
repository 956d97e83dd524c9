/-
  How many bits are on, without the program.
-/
import Derived.Test.YtfgcdmgbgadkgaaBlPure
namespace Go.Proofs.Ytfgcdmgbgadkgaa

/-- How many of the first ones are on. -/
def cnt (f : Nat → Bool) : Nat → Nat
  | 0 => 0
  | k + 1 => cnt f k + (if f k then 1 else 0)
theorem cnt_le (f : Nat → Bool) (n : Nat) : cnt f n ≤ n := by
  induction n with
  | zero => simp [cnt]
  | succ n ih => show cnt f n + (if f n then 1 else 0) ≤ n + 1; split <;> omega
theorem cnt_congr {f g : Nat → Bool} (n : Nat) (h : ∀ k, k < n → f k = g k) : cnt f n = cnt g n := by
  induction n with
  | zero => rfl
  | succ n ih => show cnt f n + (if f n then 1 else 0) = cnt g n + (if g n then 1 else 0); rw [ih (fun k hk => h k (by omega)), h n (by omega)]
theorem cnt_add (f : Nat → Bool) (m n : Nat) : cnt f (m + n) = cnt f m + cnt (fun k => f (m + k)) n := by
  induction n with
  | zero => rfl
  | succ n ih => show cnt f (m + n) + (if f (m + n) then 1 else 0) = cnt f m + (cnt (fun k => f (m + k)) n + (if f (m + n) then 1 else 0)); rw [ih]; omega
theorem cnt_none (n : Nat) : cnt (fun _ => false) n = 0 := by
  induction n with
  | zero => rfl
  | succ n ih => show cnt (fun _ => false) n + 0 = 0; rw [ih]
theorem cnt_put (f : Nat → Bool) (x n : Nat) : cnt (fun m => f m || m == x) n ≤ cnt f n + if x < n then 1 else 0 := by
  induction n with
  | zero => simp [cnt]
  | succ n ih =>
    show cnt (fun m => f m || m == x) n + (if (f n || n == x) = true then 1 else 0) ≤ cnt f n + (if f n = true then 1 else 0) + _
    rcases Nat.lt_trichotomy x n with h1 | h1 | h1
    · have e1 : (n == x) = false := by rw [beq_eq_false_iff_ne]; omega
      have e2 : x < n + 1 := by omega
      simp only [e1, Bool.or_false, h1, e2, if_true] at ih ⊢
      omega
    · subst h1
      have e2 : x < x + 1 := by omega
      have e3 : ¬ x < x := by omega
      simp only [BEq.rfl, Bool.or_true, e2, e3, if_true, if_false] at ih ⊢
      omega
    · have e1 : (n == x) = false := by rw [beq_eq_false_iff_ne]; omega
      have e2 : ¬ x < n + 1 := by omega
      have e3 : ¬ x < n := by omega
      simp only [e1, Bool.or_false, e2, e3, if_false] at ih ⊢
      omega
theorem cnt_list (P : List Nat) (n : Nat) : cnt (fun m => P.contains m) n ≤ P.length := by
  induction P with
  | nil =>
    have : cnt (fun m => ([] : List Nat).contains m) n = 0 := by rw [← cnt_none n]; exact cnt_congr n (fun k _ => by simp)
    omega
  | cons x P ih =>
    have e : cnt (fun m => (x :: P).contains m) n = cnt (fun m => P.contains m || m == x) n := cnt_congr n (fun k _ => by rw [List.contains_cons, Bool.or_comm])
    have := cnt_put (fun m => P.contains m) x n
    rw [e, List.length_cons]
    split at this <;> omega
theorem cnt_pos (f : Nat → Bool) (x n : Nat) (hx : x < n) (hf : f x = true) : 0 < cnt f n := by
  induction n with
  | zero => omega
  | succ n ih =>
    show 0 < cnt f n + (if f n then 1 else 0)
    by_cases h : x < n
    · have := ih h; omega
    · obtain rfl : x = n := by omega
      rw [if_pos hf]; omega
/-- How many bits of a byte are on. -/
def pop (b : Nat) : Nat := cnt (fun k => b.testBit k) 8
theorem pop_zero : pop 0 = 0 := by decide
theorem pop_step (b : Nat) (hb : b < 256) (h0 : b ≠ 0) : pop (b &&& (b - 1)) + 1 = pop b := by
  have h : ∀ b : Fin 256, b.val ≠ 0 → pop (b.val &&& (b.val - 1)) + 1 = pop b.val := by decide +kernel
  exact h ⟨b, hb⟩ h0
theorem pop_le (b : Nat) : pop b ≤ 8 := cnt_le _ 8
theorem pop_byte (S : Nat → Bool) (j : Nat) : pop (byteS S j) = cnt (fun k => S (8 * j + k)) 8 :=
  cnt_congr 8 (fun k hk => by rw [byteS_test]; simp [hk])
theorem pop_next (S : Nat → Bool) (j : Nat) : cnt S (8 * j) + pop (byteS S j) = cnt S (8 * (j + 1)) := by
  rw [pop_byte, Nat.mul_add, cnt_add]
end Go.Proofs.Ytfgcdmgbgadkgaa
