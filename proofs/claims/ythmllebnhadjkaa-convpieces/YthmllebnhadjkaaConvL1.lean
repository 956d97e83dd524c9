/-
  The laws ConvNarrow, ConvDoubles and ConvSwaps, walked.
-/
import Derived.Test.YthmllebnhadjkaaConvW2
import Derived.Below
namespace Go.Proofs.Ythmllebnhadjkaa
open Go.RowKit

theorem wf_i64 {a : Int} (h : (Lit.int .i64 a).wf = true) : -9223372036854775808 ≤ a ∧ a ≤ 9223372036854775807 := by
  simp [Lit.wf, IntKind.min, IntKind.max, IntKind.signed, IntKind.bits] at h; omega
theorem wf_u64 {a : Int} (h : (Lit.int .u64 a).wf = true) : ∃ n : Nat, a = n ∧ n < 18446744073709551616 := by
  simp [Lit.wf, IntKind.min, IntKind.max, IntKind.signed, IntKind.bits] at h
  exact ⟨a.toNat, by omega, by omega⟩
theorem modK (x : Int) (n : Int) (hn : 0 < n) (hb : n ≤ 1000000) : ∃ k : Int, 0 ≤ k ∧ k < n ∧ wrap64 ((IntKind.u64.wrap x).tmod n) = k := by
  have h1 : 0 ≤ IntKind.u64.wrap x := by rw [u64_val]; omega
  rw [Int.tmod_eq_emod_of_nonneg h1]
  have h2 := Int.emod_nonneg (IntKind.u64.wrap x) (show n ≠ 0 by omega)
  have h3 := Int.emod_lt_of_pos (IntKind.u64.wrap x) hn
  refine ⟨(IntKind.u64.wrap x) % n, h2, h3, ?_⟩
  unfold wrap64; omega

set_option maxRecDepth 100000 in
set_option maxHeartbeats 400000 in
theorem wraps_any (w : World) : Calls Try.prog 19 #[] w fun e w' => e = .returned (.bool true) ∧ w = w' := by
  go_enter Try.func19, Try.ntmps19
  go_wp2_with fail
  refine (wrap_any 0 (by omega) _ _).mono ?_
  rintro e w' ⟨rfl, rfl⟩
  rw [show fitI 0 200 = -56 from rfl]
  go_wp2_with fail
  refine (left_any 4 (by omega) _ 1 _).mono ?_
  rintro e w' ⟨rfl, rfl⟩
  rw [show fitI 4 (129 * 2 ^ 1) = 2 from rfl]
  go_wp2
  go_ret
  exact ⟨rfl, rfl⟩

theorem below_drewN (B : Nat) (w : World) (n : Nat) : Below B w (w.drewN n) := ⟨rfl, rfl, rfl, Nat.le_refl _, fun _ _ => rfl⟩
theorem fin_lo {k : Int} (hk : 0 ≤ k ∧ k ≤ 7) : clampI k (-9223372036854775808) = loI k ∧ clampI k 9223372036854775807 = hiI k := by
  rcases kinds hk with rfl | rfl | rfl | rfl | rfl | rfl | rfl | rfl <;> decide

namespace convNarrow
set_option maxRecDepth 100000 in
set_option maxHeartbeats 800000 in
theorem walk (a0 a1 a2 : Int) (_w0 : (Lit.int .i64 a0).wf = true) (_w1 : (Lit.int .i64 a1).wf = true) (_w2 : (Lit.int .i64 a2).wf = true) (w : World) :
    Calls Try.prog 7 #[.int .i64 a0, .int .i64 a1, .int .i64 a2] w fun e w' => e = .returned (.bool true) ∧ Below w.heap.size w w' := by
  obtain ⟨p, hp0, hp1, ep⟩ := modK a0 8 (by omega) (by omega)
  obtain ⟨q, hq0, hq1, eq⟩ := modK a1 8 (by omega) (by omega)
  have hp : 0 ≤ p ∧ p ≤ 7 := by omega
  have hq : 0 ≤ q ∧ q ≤ 7 := by omega
  have HF := Lib.hid (fit_fit (kind := p) a2)
  have HL := Lib.hid (fin_lo hp)
  have hlh := lo_hi hp
  by_cases hw : widN q ≤ widN p
  · have HW := Lib.hid (fit_less hp hq hw a2)
    by_cases c1 : a2 < loI p
    · have HK : Hid (clampI p a2 = loI p) := Lib.hid (by unfold clampI; rw [if_pos c1])
      have HK2 : Hid (fitI p (loI p) = loI p) := Lib.hid (by have := clamp_fit hp a2; rw [HK.out] at this; exact this)
      have t1 : (loI p == a2) = false := by rw [beq_eq_false_iff_ne]; omega
      go_enter Try.func7, Try.ntmps7
      go_wp2_with fail
      refine (wrap_any p hp a2 _).mono ?_
      rintro e w' ⟨rfl, rfl⟩
      go_wp2_with fail
      refine (wrap_any q hq _ _).mono ?_
      rintro e w' ⟨rfl, rfl⟩
      go_wp2_with fail
      refine (bits_any p hp _).mono ?_
      rintro e w' ⟨rfl, rfl⟩
      go_wp2_with fail
      refine (bits_any q hq _).mono ?_
      rintro e w' ⟨rfl, rfl⟩
      go_wp2_with fail
      refine (wraps_any _).mono ?_
      rintro e w' ⟨rfl, rfl⟩
      rw [HW.out]
      go_wp2_with fail
      refine (wrap_any q hq _ _).mono ?_
      rintro e w' ⟨rfl, rfl⟩
      go_wp2_with fail
      refine (wrap_any p hp _ _).mono ?_
      rintro e w' ⟨rfl, rfl⟩
      rw [HF.out]
      go_wp2_with fail
      refine (clamp_any p hp _ _).mono ?_
      rintro e w' ⟨rfl, rfl⟩
      rw [HK.out]
      go_wp2_with fail
      refine (wrap_any p hp _ _).mono ?_
      rintro e w' ⟨rfl, rfl⟩
      rw [HK2.out]
      go_wp2_with fail
      refine (clamp_any p hp _ _).mono ?_
      rintro e w' ⟨rfl, rfl⟩
      rw [HL.out.1]
      go_wp2_with fail
      refine (clamp_any p hp _ _).mono ?_
      rintro e w' ⟨rfl, rfl⟩
      rw [HL.out.2]
      go_wp2
      go_ret
      exact ⟨rfl, Below.refl _ _⟩
    · by_cases c2 : hiI p < a2
      · have HK : Hid (clampI p a2 = hiI p) := Lib.hid (by unfold clampI; rw [if_neg c1, if_pos c2])
        have HK2 : Hid (fitI p (hiI p) = hiI p) := Lib.hid (by have := clamp_fit hp a2; rw [HK.out] at this; exact this)
        have t1 : (hiI p == a2) = false := by rw [beq_eq_false_iff_ne]; omega
        go_enter Try.func7, Try.ntmps7
        go_wp2_with fail
        refine (wrap_any p hp a2 _).mono ?_
        rintro e w' ⟨rfl, rfl⟩
        go_wp2_with fail
        refine (wrap_any q hq _ _).mono ?_
        rintro e w' ⟨rfl, rfl⟩
        go_wp2_with fail
        refine (bits_any p hp _).mono ?_
        rintro e w' ⟨rfl, rfl⟩
        go_wp2_with fail
        refine (bits_any q hq _).mono ?_
        rintro e w' ⟨rfl, rfl⟩
        go_wp2_with fail
        refine (wraps_any _).mono ?_
        rintro e w' ⟨rfl, rfl⟩
        rw [HW.out]
        go_wp2_with fail
        refine (wrap_any q hq _ _).mono ?_
        rintro e w' ⟨rfl, rfl⟩
        go_wp2_with fail
        refine (wrap_any p hp _ _).mono ?_
        rintro e w' ⟨rfl, rfl⟩
        rw [HF.out]
        go_wp2_with fail
        refine (clamp_any p hp _ _).mono ?_
        rintro e w' ⟨rfl, rfl⟩
        rw [HK.out]
        go_wp2_with fail
        refine (wrap_any p hp _ _).mono ?_
        rintro e w' ⟨rfl, rfl⟩
        rw [HK2.out]
        go_wp2_with fail
        refine (clamp_any p hp _ _).mono ?_
        rintro e w' ⟨rfl, rfl⟩
        rw [HL.out.1]
        go_wp2_with fail
        refine (clamp_any p hp _ _).mono ?_
        rintro e w' ⟨rfl, rfl⟩
        rw [HL.out.2]
        go_wp2
        go_ret
        exact ⟨rfl, Below.refl _ _⟩
      · have HK : Hid (clampI p a2 = a2) := Lib.hid (by unfold clampI; rw [if_neg c1, if_neg c2])
        have HK2 : Hid (fitI p a2 = a2) := Lib.hid (by have := clamp_fit hp a2; rw [HK.out] at this; exact this)
        go_enter Try.func7, Try.ntmps7
        go_wp2_with fail
        refine (wrap_any p hp a2 _).mono ?_
        rintro e w' ⟨rfl, rfl⟩
        go_wp2_with fail
        refine (wrap_any q hq _ _).mono ?_
        rintro e w' ⟨rfl, rfl⟩
        go_wp2_with fail
        refine (bits_any p hp _).mono ?_
        rintro e w' ⟨rfl, rfl⟩
        go_wp2_with fail
        refine (bits_any q hq _).mono ?_
        rintro e w' ⟨rfl, rfl⟩
        go_wp2_with fail
        refine (wraps_any _).mono ?_
        rintro e w' ⟨rfl, rfl⟩
        rw [HW.out]
        go_wp2_with fail
        refine (wrap_any q hq _ _).mono ?_
        rintro e w' ⟨rfl, rfl⟩
        go_wp2_with fail
        refine (wrap_any p hp _ _).mono ?_
        rintro e w' ⟨rfl, rfl⟩
        rw [HF.out]
        go_wp2_with fail
        refine (clamp_any p hp _ _).mono ?_
        rintro e w' ⟨rfl, rfl⟩
        rw [HK.out]
        go_wp2_with fail
        refine (wrap_any p hp _ _).mono ?_
        rintro e w' ⟨rfl, rfl⟩
        rw [HK2.out]
        go_wp2_with fail
        refine (clamp_any p hp _ _).mono ?_
        rintro e w' ⟨rfl, rfl⟩
        rw [HL.out.1]
        go_wp2_with fail
        refine (clamp_any p hp _ _).mono ?_
        rintro e w' ⟨rfl, rfl⟩
        rw [HL.out.2]
        go_wp2
        go_ret
        exact ⟨rfl, Below.refl _ _⟩
  · by_cases c1 : a2 < loI p
    · have HK : Hid (clampI p a2 = loI p) := Lib.hid (by unfold clampI; rw [if_pos c1])
      have HK2 : Hid (fitI p (loI p) = loI p) := Lib.hid (by have := clamp_fit hp a2; rw [HK.out] at this; exact this)
      have t1 : (loI p == a2) = false := by rw [beq_eq_false_iff_ne]; omega
      go_enter Try.func7, Try.ntmps7
      go_wp2_with fail
      refine (wrap_any p hp a2 _).mono ?_
      rintro e w' ⟨rfl, rfl⟩
      go_wp2_with fail
      refine (wrap_any q hq _ _).mono ?_
      rintro e w' ⟨rfl, rfl⟩
      go_wp2_with fail
      refine (bits_any p hp _).mono ?_
      rintro e w' ⟨rfl, rfl⟩
      go_wp2_with fail
      refine (bits_any q hq _).mono ?_
      rintro e w' ⟨rfl, rfl⟩
      go_wp2_with fail
      refine (wraps_any _).mono ?_
      rintro e w' ⟨rfl, rfl⟩
      go_wp2_with fail
      refine (wrap_any p hp _ _).mono ?_
      rintro e w' ⟨rfl, rfl⟩
      rw [HF.out]
      go_wp2_with fail
      refine (clamp_any p hp _ _).mono ?_
      rintro e w' ⟨rfl, rfl⟩
      rw [HK.out]
      go_wp2_with fail
      refine (wrap_any p hp _ _).mono ?_
      rintro e w' ⟨rfl, rfl⟩
      rw [HK2.out]
      go_wp2_with fail
      refine (clamp_any p hp _ _).mono ?_
      rintro e w' ⟨rfl, rfl⟩
      rw [HL.out.1]
      go_wp2_with fail
      refine (clamp_any p hp _ _).mono ?_
      rintro e w' ⟨rfl, rfl⟩
      rw [HL.out.2]
      go_wp2
      go_ret
      exact ⟨rfl, Below.refl _ _⟩
    · by_cases c2 : hiI p < a2
      · have HK : Hid (clampI p a2 = hiI p) := Lib.hid (by unfold clampI; rw [if_neg c1, if_pos c2])
        have HK2 : Hid (fitI p (hiI p) = hiI p) := Lib.hid (by have := clamp_fit hp a2; rw [HK.out] at this; exact this)
        have t1 : (hiI p == a2) = false := by rw [beq_eq_false_iff_ne]; omega
        go_enter Try.func7, Try.ntmps7
        go_wp2_with fail
        refine (wrap_any p hp a2 _).mono ?_
        rintro e w' ⟨rfl, rfl⟩
        go_wp2_with fail
        refine (wrap_any q hq _ _).mono ?_
        rintro e w' ⟨rfl, rfl⟩
        go_wp2_with fail
        refine (bits_any p hp _).mono ?_
        rintro e w' ⟨rfl, rfl⟩
        go_wp2_with fail
        refine (bits_any q hq _).mono ?_
        rintro e w' ⟨rfl, rfl⟩
        go_wp2_with fail
        refine (wraps_any _).mono ?_
        rintro e w' ⟨rfl, rfl⟩
        go_wp2_with fail
        refine (wrap_any p hp _ _).mono ?_
        rintro e w' ⟨rfl, rfl⟩
        rw [HF.out]
        go_wp2_with fail
        refine (clamp_any p hp _ _).mono ?_
        rintro e w' ⟨rfl, rfl⟩
        rw [HK.out]
        go_wp2_with fail
        refine (wrap_any p hp _ _).mono ?_
        rintro e w' ⟨rfl, rfl⟩
        rw [HK2.out]
        go_wp2_with fail
        refine (clamp_any p hp _ _).mono ?_
        rintro e w' ⟨rfl, rfl⟩
        rw [HL.out.1]
        go_wp2_with fail
        refine (clamp_any p hp _ _).mono ?_
        rintro e w' ⟨rfl, rfl⟩
        rw [HL.out.2]
        go_wp2
        go_ret
        exact ⟨rfl, Below.refl _ _⟩
      · have HK : Hid (clampI p a2 = a2) := Lib.hid (by unfold clampI; rw [if_neg c1, if_neg c2])
        have HK2 : Hid (fitI p a2 = a2) := Lib.hid (by have := clamp_fit hp a2; rw [HK.out] at this; exact this)
        go_enter Try.func7, Try.ntmps7
        go_wp2_with fail
        refine (wrap_any p hp a2 _).mono ?_
        rintro e w' ⟨rfl, rfl⟩
        go_wp2_with fail
        refine (wrap_any q hq _ _).mono ?_
        rintro e w' ⟨rfl, rfl⟩
        go_wp2_with fail
        refine (bits_any p hp _).mono ?_
        rintro e w' ⟨rfl, rfl⟩
        go_wp2_with fail
        refine (bits_any q hq _).mono ?_
        rintro e w' ⟨rfl, rfl⟩
        go_wp2_with fail
        refine (wraps_any _).mono ?_
        rintro e w' ⟨rfl, rfl⟩
        go_wp2_with fail
        refine (wrap_any p hp _ _).mono ?_
        rintro e w' ⟨rfl, rfl⟩
        rw [HF.out]
        go_wp2_with fail
        refine (clamp_any p hp _ _).mono ?_
        rintro e w' ⟨rfl, rfl⟩
        rw [HK.out]
        go_wp2_with fail
        refine (wrap_any p hp _ _).mono ?_
        rintro e w' ⟨rfl, rfl⟩
        rw [HK2.out]
        go_wp2_with fail
        refine (clamp_any p hp _ _).mono ?_
        rintro e w' ⟨rfl, rfl⟩
        rw [HL.out.1]
        go_wp2_with fail
        refine (clamp_any p hp _ _).mono ?_
        rintro e w' ⟨rfl, rfl⟩
        rw [HL.out.2]
        go_wp2
        go_ret
        exact ⟨rfl, Below.refl _ _⟩
end convNarrow
theorem right_range {p : Int} (hp : 0 ≤ p ∧ p ≤ 7) (h7 : p ≠ 7) (n : Int) (m : Nat) : fitI p (fitI p n / 2 ^ m) = fitI p n / 2 ^ m := by
  have e : (2 : Int) ^ m = ((2 ^ m : Nat) : Int) := by simp
  have hpos := Nat.two_pow_pos m
  rw [e]
  generalize 2 ^ m = d at *
  have key : ∀ lo hi v : Int, lo ≤ 0 → 0 ≤ hi → lo ≤ v → v ≤ hi → lo ≤ v / (d : Int) ∧ v / (d : Int) ≤ hi := by
    intro lo hi v h1 h2 h3 h4
    have hd : (0 : Int) < d := by omega
    constructor
    · rw [Int.le_ediv_iff_mul_le hd]
      have : lo * (d : Int) ≤ lo * 1 := Int.mul_le_mul_of_nonpos_left h1 (by omega)
      omega
    · rcases Int.le_total 0 v with h | h
      · exact Int.le_trans (Int.ediv_le_self _ h) h4
      · have : v / (d : Int) ≤ 0 := Int.ediv_nonpos_of_nonpos_of_neg h (by omega)
        omega
  rcases kinds hp with rfl | rfl | rfl | rfl | rfl | rfl | rfl | rfl
  · have := key (-128) 127 (fitI 0 n) (by omega) (by omega) (by simp only [fitI]; simp; omega) (by simp only [fitI]; simp; omega)
    generalize fitI 0 n / (d : Int) = z at *; simp only [fitI]; simp; omega
  · have := key (-32768) 32767 (fitI 1 n) (by omega) (by omega) (by simp only [fitI]; simp; omega) (by simp only [fitI]; simp; omega)
    generalize fitI 1 n / (d : Int) = z at *; simp only [fitI]; simp; omega
  · have := key (-2147483648) 2147483647 (fitI 2 n) (by omega) (by omega) (by simp only [fitI]; simp; omega) (by simp only [fitI]; simp; omega)
    generalize fitI 2 n / (d : Int) = z at *; simp only [fitI]; simp; omega
  · have := key (-9223372036854775808) 9223372036854775807 (fitI 3 n) (by omega) (by omega) (by simp only [fitI]; simp; omega) (by simp only [fitI]; simp; omega)
    generalize fitI 3 n / (d : Int) = z at *; simp only [fitI]; simp; omega
  · have := key 0 255 (fitI 4 n) (by omega) (by omega) (by simp only [fitI]; simp; omega) (by simp only [fitI]; simp; omega)
    generalize fitI 4 n / (d : Int) = z at *; simp only [fitI]; simp; omega
  · have := key 0 65535 (fitI 5 n) (by omega) (by omega) (by simp only [fitI]; simp; omega) (by simp only [fitI]; simp; omega)
    generalize fitI 5 n / (d : Int) = z at *; simp only [fitI]; simp; omega
  · have := key 0 4294967295 (fitI 6 n) (by omega) (by omega) (by simp only [fitI]; simp; omega) (by simp only [fitI]; simp; omega)
    generalize fitI 6 n / (d : Int) = z at *; simp only [fitI]; simp; omega
  · exact absurd rfl h7
theorem right_fit {p : Int} (hp : 0 ≤ p ∧ p ≤ 7) (n : Int) (m : Nat) : fitI p (rightI p n m * 2 ^ 0) = rightI p n m := by
  rw [Int.pow_zero, Int.mul_one]
  unfold rightI
  split
  · rename_i h; subst h; exact fit_fit _
  · rename_i h; exact right_range hp h n _
set_option maxRecDepth 100000 in
theorem right_right {p : Int} (hp : 0 ≤ p ∧ p ≤ 7) (n : Int) (m : Nat) : rightI p (rightI p n m) 1 = rightI p n (m + 1) := by
  by_cases h7 : p = 7
  · subst h7
    simp only [rightI, if_true]
    have hu := uN_lt n
    have hd : uN n / 2 ^ min m 64 ≤ uN n := Nat.div_le_self _ _
    have e : ∀ y : Nat, y ≤ uN n → uN (fitI 7 (y : Int)) = y := fun y hy => by
      unfold uN fitI; simp only [Int.reduceEq, if_false]; omega
    rw [e _ hd, Nat.div_div_eq_div_mul, ← Nat.pow_add]
    have e3 : uN n / 2 ^ (min m 64 + min 1 64) = uN n / 2 ^ min (m + 1) 64 := by
      rcases Nat.lt_or_ge m 64 with h | h
      · rw [show min m 64 + min 1 64 = min (m + 1) 64 by omega]
      · have a1 : uN n < 2 ^ min (m + 1) 64 := by rw [show min (m + 1) 64 = 64 by omega]; exact hu
        have a2 : uN n < 2 ^ (min m 64 + min 1 64) := Nat.lt_of_lt_of_le hu (Nat.pow_le_pow_right (n := 2) (by omega) (show 64 ≤ min m 64 + min 1 64 by omega))
        rw [Nat.div_eq_of_lt a2, Nat.div_eq_of_lt a1]
    rw [e3]
  · simp only [rightI, h7, if_false]
    rw [right_range hp h7]
    rcases Nat.lt_or_ge m 64 with h | h
    · rw [Int.ediv_ediv_of_nonneg (Int.le_of_lt (Int.pow_pos (by omega))), ← Int.pow_add]
      congr 2; omega
    · rw [Nat.min_eq_right h, Nat.min_eq_right (show 64 ≤ m + 1 by omega)]
      have hr := fit_range (kind := p) n
      have e : (2 : Int) ^ 64 = 18446744073709551616 := by decide
      rw [e, show (2 : Int) ^ min 1 64 = 2 from rfl]; omega
theorem left_succ (kind : Int) (hk : 0 ≤ kind ∧ kind ≤ 7) (n : Int) (m : Nat) (w : World) :
    Calls Try.prog 21 #[.int .i64 kind, .int .i64 n, .int .i64 ((m : Int) + 1)] w fun e w' => e = .returned (.tuple #[.int .i64 (fitI kind (n * 2 ^ (m + 1))), .int .i64 0]) ∧ w = w' := by
  have h := left_any kind hk n (m + 1) w
  rw [show ((m + 1 : Nat) : Int) = (m : Int) + 1 by omega] at h; exact h
theorem right_succ (kind : Int) (hk : 0 ≤ kind ∧ kind ≤ 7) (n : Int) (m : Nat) (w : World) :
    Calls Try.prog 23 #[.int .i64 kind, .int .i64 n, .int .i64 ((m : Int) + 1)] w fun e w' => e = .returned (.tuple #[.int .i64 (rightI kind n (m + 1)), .int .i64 0]) ∧ w = w' := by
  have h := right_any kind hk n (m + 1) w
  rw [show ((m + 1 : Nat) : Int) = (m : Int) + 1 by omega] at h; exact h
theorem left_at (kind : Int) (hk : 0 ≤ kind ∧ kind ≤ 7) (n z : Int) (m : Nat) (hz : z = m) (w : World) :
    Calls Try.prog 21 #[.int .i64 kind, .int .i64 n, .int .i64 z] w fun e w' => e = .returned (.tuple #[.int .i64 (fitI kind (n * 2 ^ m)), .int .i64 0]) ∧ w = w' := by
  subst hz; exact left_any kind hk n m w
theorem right_at (kind : Int) (hk : 0 ≤ kind ∧ kind ≤ 7) (n z : Int) (m : Nat) (hz : z = m) (w : World) :
    Calls Try.prog 23 #[.int .i64 kind, .int .i64 n, .int .i64 z] w fun e w' => e = .returned (.tuple #[.int .i64 (rightI kind n m), .int .i64 0]) ∧ w = w' := by
  subst hz; exact right_any kind hk n m w
namespace convDoubles
set_option maxRecDepth 100000 in
set_option maxHeartbeats 800000 in
theorem walk (a0 a1 a2 : Int) (_w0 : (Lit.int .i64 a0).wf = true) (_w1 : (Lit.int .i64 a1).wf = true) (_w2 : (Lit.int .i64 a2).wf = true) (w : World) :
    Calls Try.prog 8 #[.int .i64 a0, .int .i64 a1, .int .i64 a2] w fun e w' => e = .returned (.bool true) ∧ Below w.heap.size w w' := by
  obtain ⟨p, hp0, hp1, ep⟩ := modK a0 8 (by omega) (by omega)
  obtain ⟨q, hq0, hq1, eq⟩ := modK a2 70 (by omega) (by omega)
  have hp : 0 ≤ p ∧ p ≤ 7 := by omega
  obtain ⟨m, rfl⟩ := Int.eq_ofNat_of_zero_le hq0
  have hm : m < 70 := by omega
  have H1 : Hid (fitI p (fitI p a1 + fitI p a1) = fitI p (a1 * 2 ^ 1)) := Lib.hid (fit_sum a1)
  have H2 : Hid (fitI p (fitI p (a1 * 2 ^ m) * 2 ^ 1) = fitI p (a1 * 2 ^ (m + 1))) := Lib.hid (by rw [Int.pow_succ 2 m, ← Int.mul_assoc]; exact fit_two _)
  have H3 := Lib.hid (right_right hp a1 m)
  have H4 := Lib.hid (fun z => right_fit hp a1 z)
  have H5 : Hid (fitI p (wrap64 (fitI p a1 + fitI p a1)) = fitI p (a1 * 2 ^ 1)) := Lib.hid (by rw [← H1.out]; apply fit_congr; unfold wrap64; omega)
  by_cases h63 : m ≤ 63
  · go_enter Try.func8, Try.ntmps8
    go_wp2_with fail
    refine (wrap_any p hp a1 _).mono ?_
    rintro e w' ⟨rfl, rfl⟩
    go_wp2_with fail
    refine (left_at p hp a1 1 1 rfl _).mono ?_
    rintro e w' ⟨rfl, rfl⟩
    go_wp2_with fail
    refine (wrap_any p hp _ _).mono ?_
    rintro e w' ⟨rfl, rfl⟩
    rw [H5.out]
    go_wp2_with fail
    refine (left_any p hp a1 m _).mono ?_
    rintro e w' ⟨rfl, rfl⟩
    go_wp2_with fail
    refine (left_at p hp _ 1 1 rfl _).mono ?_
    rintro e w' ⟨rfl, rfl⟩
    rw [H2.out]
    go_wp2_with fail
    refine (left_succ p hp a1 m _).mono ?_
    rintro e w' ⟨rfl, rfl⟩
    go_wp2_with fail
    refine (wraps_any _).mono ?_
    rintro e w' ⟨rfl, rfl⟩
    go_wp2_with fail
    refine (right_any p hp a1 m _).mono ?_
    rintro e w' ⟨rfl, rfl⟩
    go_wp2_with fail
    refine (right_at p hp _ 1 1 rfl _).mono ?_
    rintro e w' ⟨rfl, rfl⟩
    rw [H3.out]
    go_wp2_with fail
    refine (right_succ p hp a1 m _).mono ?_
    rintro e w' ⟨rfl, rfl⟩
    go_wp2_with fail
    refine (right_any p hp a1 m _).mono ?_
    rintro e w' ⟨rfl, rfl⟩
    go_wp2_with fail
    refine (left_at p hp _ 0 0 rfl _).mono ?_
    rintro e w' ⟨rfl, rfl⟩
    rw [H4.out]
    go_wp2
    go_ret
    exact ⟨rfl, Below.refl _ _⟩
  · go_enter Try.func8, Try.ntmps8
    go_wp2_with fail
    refine (wrap_any p hp a1 _).mono ?_
    rintro e w' ⟨rfl, rfl⟩
    go_wp2_with fail
    refine (left_at p hp a1 1 1 rfl _).mono ?_
    rintro e w' ⟨rfl, rfl⟩
    go_wp2_with fail
    refine (wrap_any p hp _ _).mono ?_
    rintro e w' ⟨rfl, rfl⟩
    rw [H5.out]
    go_wp2_with fail
    refine (left_any p hp a1 m _).mono ?_
    rintro e w' ⟨rfl, rfl⟩
    go_wp2_with fail
    refine (left_at p hp _ 1 1 rfl _).mono ?_
    rintro e w' ⟨rfl, rfl⟩
    rw [H2.out]
    go_wp2_with fail
    refine (left_succ p hp a1 m _).mono ?_
    rintro e w' ⟨rfl, rfl⟩
    go_wp2_with fail
    refine (wraps_any _).mono ?_
    rintro e w' ⟨rfl, rfl⟩
    go_wp2_with fail
    refine (right_any p hp a1 m _).mono ?_
    rintro e w' ⟨rfl, rfl⟩
    go_wp2_with fail
    refine (right_at p hp _ 1 1 rfl _).mono ?_
    rintro e w' ⟨rfl, rfl⟩
    rw [H3.out]
    go_wp2_with fail
    refine (right_succ p hp a1 m _).mono ?_
    rintro e w' ⟨rfl, rfl⟩
    go_wp2_with fail
    refine (right_at p hp a1 63 63 rfl _).mono ?_
    rintro e w' ⟨rfl, rfl⟩
    go_wp2_with fail
    refine (left_at p hp _ 0 0 rfl _).mono ?_
    rintro e w' ⟨rfl, rfl⟩
    rw [H4.out]
    go_wp2
    go_ret
    exact ⟨rfl, Below.refl _ _⟩
end convDoubles
namespace convSwaps
set_option maxRecDepth 100000 in
set_option maxHeartbeats 800000 in
theorem walk (a0 a1 : Int) (_w0 : (Lit.int .i64 a0).wf = true) (_w1 : (Lit.int .i64 a1).wf = true) (w : World) :
    Calls Try.prog 9 #[.int .i64 a0, .int .i64 a1] w fun e w' => e = .returned (.bool true) ∧ Below w.heap.size w w' := by
  obtain ⟨p, hp0, hp1, ep⟩ := modK a0 8 (by omega) (by omega)
  have hp : 0 ≤ p ∧ p ≤ 7 := by omega
  have hw : 8 ≤ widN p ∧ widN p ≤ 64 ∧ 8 * (widN p / 8) = widN p := by rcases wid_le p with h | h | h | h <;> omega
  obtain ⟨s, hs⟩ : ∃ s, s = fitI p (swp (uN a1) (widN p / 8) : Int) := ⟨_, rfl⟩
  have hsb : ∀ i, i < widN p → (uN s).testBit i = (uN a1).testBit (8 * (widN p / 8 - 1 - i / 8) + i % 8) := fun i hi => by
    rw [hs, uN_fit hp _ i hi]
    have hlt : swp (uN a1) (widN p / 8) < 18446744073709551616 := Nat.lt_of_lt_of_le (swp_lt _ _) (Nat.pow_le_pow_right (n := 256) (by omega) (show widN p / 8 ≤ 8 by omega))
    have e : ∀ y : Nat, y < 18446744073709551616 → uN (y : Int) = y := fun y hy => by unfold uN; omega
    rw [e _ hlt, swp_bit, decide_eq_true (show i < 8 * (widN p / 8) by omega), Bool.true_and]
  have H1 : Hid (fitI p (swp (uN s) (widN p / 8) : Int) = fitI p a1) := Lib.hid (by
    rw [← fit_uN (kind := p) a1]
    apply fit_ext hp
    intro i hi
    rw [swp_bit, decide_eq_true (show i < 8 * (widN p / 8) by omega), Bool.true_and, hsb _ (by omega)]
    congr 1; omega)
  have H2 : Hid (uN s / 2 ^ 0 % 2 ^ 8 = uN (fitI p a1) / 2 ^ (widN p - 8) % 2 ^ 8) := Lib.hid (by
    apply Nat.eq_of_testBit_eq; intro i
    rw [Nat.testBit_mod_two_pow, Nat.testBit_mod_two_pow, Nat.testBit_div_two_pow, Nat.testBit_div_two_pow]
    by_cases hi : i < 8
    · rw [Nat.add_zero, hsb i (by omega), uN_fit hp _ _ (by omega), show 8 * (widN p / 8 - 1 - i / 8) + i % 8 = i + (widN p - 8) by omega]
    · simp [hi])
  have HV := Lib.hid (u64_val (fitI p a1))
  have HV2 := Lib.hid (u64_val s)
  have HS := Lib.hid hs.symm
  have HB : Hid ((widN p : Int) - 8 = ((widN p - 8 : Nat) : Int)) := Lib.hid (by omega)
  clear hs hsb
  go_enter Try.func9, Try.ntmps9
  go_wp2_with fail
  refine (bits_any p hp _).mono ?_
  rintro e w' ⟨rfl, rfl⟩
  go_wp2_with fail
  refine (wrap_any p hp a1 _).mono ?_
  rintro e w' ⟨rfl, rfl⟩
  go_wp2_with fail
  refine (swap_any p hp a1 _).mono ?_
  rintro e w' ⟨rfl, rfl⟩
  rw [HS.out]
  go_wp2_with fail
  refine (swap_any p hp s _).mono ?_
  rintro e w' ⟨rfl, rfl⟩
  rw [H1.out]
  go_wp2_with fail
  rw [HV.out, HB.out]
  refine (get_any _ (widN p - 8) 8 (uN_lt _) (by omega) _).mono ?_
  rintro e w' ⟨rfl, nq, rfl⟩
  go_wp2_with fail
  rw [HV2.out]
  refine (get_any _ 0 8 (uN_lt _) (by omega) _).mono ?_
  rintro e w' ⟨rfl, nq2, rfl⟩
  rw [H2.out]
  go_wp2_with fail
  refine (wraps_any _).mono ?_
  rintro e w' ⟨rfl, rfl⟩
  go_wp2
  go_ret
  exact ⟨rfl, below_drewN _ _ _⟩
end convSwaps
end Go.Proofs.Ythmllebnhadjkaa
