/-
  What Swap, Turn, Get and Set of package conv answer.
-/
import Derived.Test.YtjdnjobaoiecoaaCvConvW1
namespace Go.Proofs.Ytjdnjobaoiecoaa.CV
open Go.RowKit

def divN (x j : Nat) : Nat := x / 256 ^ j
theorem swp_step (x j : Nat) (hj : j < 8) : bits .or .u64 (IntKind.u64.wrap ((swp x j : Int) * 256)) ((divN x j : Int) % 256) = (swp x (j + 1) : Int) := by
  have h1 := swp_lt x j
  have hle : 256 ^ j ≤ 256 ^ 7 := Nat.pow_le_pow_right (by omega) (by omega)
  have e1 : IntKind.u64.wrap ((swp x j : Int) * 256) = ((swp x j * 256 : Nat) : Int) := by rw [u64_val, uN_val]; omega
  have e2 : (divN x j : Int) % 256 = ((x / 256 ^ j % 256 : Nat) : Int) := by rw [Int.natCast_emod]; rfl
  have h2 : x / 256 ^ j % 256 < 256 := Nat.mod_lt _ (by omega)
  rw [e1, e2, u64_or _ _ (by omega) (by omega)]
  have e3 : swp x j * 256 ||| x / 256 ^ j % 256 = swp x (j + 1) := by
    generalize hq : x / 256 ^ j % 256 = q at *
    have : swp x (j + 1) = swp x j * 256 + q := by rw [← hq]; rfl
    rw [this, Nat.mul_comm, ← Nat.two_pow_add_eq_or_of_lt (i := 8) h2]
  rw [e3]

theorem divN_val (x j : Nat) : divN x (j + 1) = divN x j / 256 := by unfold divN; rw [Nat.pow_succ, Nat.div_div_eq_div_mul]
theorem divN_le (x j : Nat) : divN x j ≤ x := Nat.div_le_self _ _

set_option maxRecDepth 100000 in
set_option maxHeartbeats 400000 in
theorem swap_any (kind : Int) (hk : 0 ≤ kind ∧ kind ≤ 7) (n : Int) (w : World) :
    Calls Try.prog 17 #[.int .i64 kind, .int .i64 n] w fun e w' => e = .returned (.tuple #[.int .i64 (fitI kind (swp (uN n) (widN kind / 8) : Int)), .int .i64 0]) ∧ w = w' := by
  have HV := Lib.hid (u64_val n)
  have hu := uN_lt n
  have hw : 1 ≤ widN kind / 8 ∧ widN kind / 8 ≤ 8 := by rcases wid_le kind with h | h | h | h <;> omega
  have hw2 : widN kind ≤ 64 := by rcases wid_le kind with h | h | h | h <;> omega
  go_enter Try.func17, Try.ntmps17
  go_wp2_with fail
  refine (bits_any _ hk _).mono ?_
  rintro e w' ⟨rfl, rfl⟩
  go_wp2
  go_loop [9, 10, 24] (fun r t i => ∃ j : Nat, j ≤ widN kind / 8 ∧ r = .int .u64 (divN (uN n) j : Int) ∧ t = .int .u64 (swp (uN n) j : Int) ∧ i = .int .i64 (j : Int)) (fun _ _ i => widN kind / 8 - (intOf i).toNat)
  case atStart => exact ⟨0, by omega, by rw [HV.out]; simp [divN], rfl, rfl⟩
  case round =>
    obtain ⟨j, hj, rfl, rfl, rfl⟩ := hrel
    by_cases hlt : j < widN kind / 8
    · have HS := Lib.hid (swp_step (uN n) j (by omega))
      have HD := Lib.hid (divN_val (uN n) j)
      have hd := divN_le (uN n) j
      go_wp2
      go_round
      case rel => exact ⟨j + 1, by omega, by rw [HD.out]; rfl, by rw [HS.out], by go_num⟩
      case measure => simp [intOf]; omega
    · obtain rfl : j = widN kind / 8 := by omega
      go_wp2_with fail
      refine (fit_any _ hk _ _).mono ?_
      rintro e w' ⟨rfl, rfl⟩
      go_wp2
      go_ret2
      exact ⟨rfl, rfl⟩
set_option maxRecDepth 100000 in
set_option maxHeartbeats 400000 in
theorem swap_no (kind : Int) (hk : kind < 0 ∨ 7 < kind) (n : Int) (w : World) :
    Calls Try.prog 17 #[.int .i64 kind, .int .i64 n] w fun e w' => e = .returned (.tuple #[.int .i64 0, .int .i64 1]) ∧ w = w' := by
  go_enter Try.func17, Try.ntmps17
  go_wp2_with fail
  refine (bits_no _ hk _).mono ?_
  rintro e w' ⟨rfl, rfl⟩
  go_wp2
  go_ret2
  exact ⟨rfl, rfl⟩
set_option maxRecDepth 100000 in
set_option maxHeartbeats 400000 in
theorem turn_no (kind : Int) (hk : kind < 0 ∨ 7 < kind) (n m : Int) (w : World) :
    Calls Try.prog 19 #[.int .i64 kind, .int .i64 n, .int .i64 m] w fun e w' => e = .returned (.tuple #[.int .i64 0, .int .i64 1]) ∧ w = w' := by
  go_enter Try.func19, Try.ntmps19
  go_wp2_with fail
  refine (bits_no _ hk _).mono ?_
  rintro e w' ⟨rfl, rfl⟩
  go_wp2
  go_ret2
  exact ⟨rfl, rfl⟩

theorem turn_val {kind : Int} (hk : 0 ≤ kind ∧ kind ≤ 7) (X u v : Nat) (hX : X < 2 ^ widN kind) (_hu : u < widN kind) (hv : v = widN kind - u) :
    fitI kind (bits .or .u64 (IntKind.u64.wrap ((X : Int) * 2 ^ u)) ((X : Int) / 2 ^ v)) = fitI kind (rotN (widN kind) X u : Int) := by
  have hw : widN kind ≤ 64 := by rcases wid_le kind with h | h | h | h <;> omega
  have hle : 2 ^ widN kind ≤ 2 ^ 64 := Nat.pow_le_pow_right (by omega) hw
  have e1 : IntKind.u64.wrap ((X : Int) * 2 ^ u) = ((X * 2 ^ u % 2 ^ 64 : Nat) : Int) := by
    rw [u64_val, uN_val, Int.natCast_emod, Int.natCast_mul]; simp
  have e2 : (X : Int) / 2 ^ v = ((X / 2 ^ v : Nat) : Int) := by rw [Int.natCast_ediv]; simp
  have h2 : X / 2 ^ v ≤ X := Nat.div_le_self _ _
  have h3 : X * 2 ^ u % 2 ^ 64 < 2 ^ 64 := Nat.mod_lt _ (by decide)
  rw [e1, e2, u64_or _ _ (by omega) (by omega)]
  apply fit_ext hk
  intro i hi
  unfold rotN
  rw [Nat.testBit_or, Nat.testBit_or, Nat.testBit_mod_two_pow, hv]
  simp [show i < 64 by omega]
set_option maxRecDepth 100000 in
set_option maxHeartbeats 400000 in
theorem turn_any (kind : Int) (hk : 0 ≤ kind ∧ kind ≤ 7) (n m : Int) (w : World) :
    Calls Try.prog 19 #[.int .i64 kind, .int .i64 n, .int .i64 m] w fun e w' => e = .returned (.tuple #[.int .i64 (turnI kind n m), .int .i64 0]) ∧ ∃ q, w' = w.drewN q := by
  have hw : 8 ≤ widN kind ∧ widN kind ≤ 64 := by rcases wid_le kind with h | h | h | h <;> omega
  obtain ⟨X, hX⟩ : ∃ X, X = uN n % 2 ^ widN kind := ⟨_, rfl⟩
  obtain ⟨u, hu⟩ : ∃ u : Nat, u = (m % (widN kind : Nat)).toNat := ⟨_, rfl⟩
  obtain ⟨v, hv⟩ : ∃ v, v = widN kind - u := ⟨_, rfl⟩
  have hm0 := Int.emod_nonneg m (show ((widN kind : Nat) : Int) ≠ 0 by omega)
  have hm1 := Int.emod_lt_of_pos m (show (0 : Int) < ((widN kind : Nat) : Int) by omega)
  have hul : u < widN kind := by omega
  have hXl : X < 2 ^ widN kind := by rw [hX]; exact Nat.mod_lt _ (Nat.two_pow_pos _)
  have HOWN : Hid (bits .and .u64 (IntKind.u64.wrap n) ((2 ^ widN kind - 1 : Nat) : Int) = (X : Int)) := Lib.hid (by
    have hle : 2 ^ widN kind ≤ 2 ^ 64 := Nat.pow_le_pow_right (by omega) hw.2
    have := uN_lt n
    have hp := Nat.two_pow_pos (widN kind)
    rw [u64_val, u64_and _ _ (by omega) (by omega), Nat.and_two_pow_sub_one_eq_mod, hX])
  have HUP : Hid (bits .and .i64 m ((widN kind : Int) - 1) = (u : Int)) := Lib.hid (by
    have e : ∃ b, b ≤ 6 ∧ widN kind = 2 ^ b := by
      rcases wid_le kind with h | h | h | h <;> rw [h]
      · exact ⟨3, by omega, rfl⟩
      · exact ⟨4, by omega, rfl⟩
      · exact ⟨5, by omega, rfl⟩
      · exact ⟨6, by omega, rfl⟩
    obtain ⟨b, hb, e⟩ := e
    have e2 : (widN kind : Int) - 1 = ((2 ^ b - 1 : Nat) : Int) := by rw [← e]; omega
    rw [e2, i64_low m b hb, ← e]; omega)
  have HT : Hid (fitI kind (bits .or .u64 (IntKind.u64.wrap ((X : Int) * 2 ^ u)) ((X : Int) / 2 ^ v)) = turnI kind n m) := Lib.hid (by
    rw [turn_val hk X u v hXl hul hv]; unfold turnI; rw [hX, hu])
  have hvs : IntKind.i64.wrap ((widN kind : Int) - (u : Int)) = (v : Int) := by rw [IntKind.wrap_i64]; omega
  have hu64 : u ≤ 64 := by omega
  have hv64 : v ≤ 64 := by omega
  have HVS := Lib.hid hvs
  clear hX hu hv hm0 hm1 hvs hXl
  go_enter Try.func19, Try.ntmps19
  go_wp2_with fail
  refine (bits_any _ hk _).mono ?_
  rintro e w' ⟨rfl, rfl⟩
  go_wp2_with fail
  refine (ones_any _ hw.2 _).mono ?_
  rintro e w' ⟨rfl, rfl⟩
  go_wp2
  rw [HOWN.out, HUP.out]
  have hvs := HVS.out
  go_quiet ((go_at_call 36; exact Calls.quiet_of_same (same_of (fit_any kind hk _ _))))
  go_wp2
  go_ret2
  exact ⟨ret_two HT.out rfl, _, rfl⟩
set_option maxRecDepth 100000 in
set_option maxHeartbeats 400000 in
theorem within_yes (a b : Nat) (h : a + b ≤ 64) (w : World) :
    Calls Try.prog 32 #[.int .i64 (a : Int), .int .i64 (b : Int)] w fun e w' => e = .returned (.bool true) ∧ w = w' := by
  have h1 : a ≤ 64 := by omega
  have h2 : (b : Int) ≤ 64 - a := by omega
  go_enter Try.func32, Try.ntmps32
  go_wp2
  go_ret
  exact ⟨rfl, rfl⟩
/-- Are there such bits? -/
def fieldB (a b : Int) : Prop := 0 ≤ a ∧ 0 ≤ b ∧ a + b ≤ 64
set_option maxRecDepth 100000 in
set_option maxHeartbeats 400000 in
theorem within_no (a b : Int) (ha : -9223372036854775808 ≤ a ∧ a ≤ 9223372036854775807) (h : ¬ fieldB a b) (w : World) :
    Calls Try.prog 32 #[.int .i64 a, .int .i64 b] w fun e w' => e = .returned (.bool false) ∧ w = w' := by
  unfold fieldB at h
  by_cases h1 : 0 ≤ a
  · by_cases h2 : 0 ≤ b
    · by_cases h3 : a ≤ 64
      · have h4 : ¬ (b ≤ 64 - a) := by omega
        clear h
        go_enter Try.func32, Try.ntmps32
        go_wp2
        go_ret
        exact ⟨rfl, rfl⟩
      · clear h
        go_enter Try.func32, Try.ntmps32
        go_wp2
        go_ret
        exact ⟨rfl, rfl⟩
    · clear h
      go_enter Try.func32, Try.ntmps32
      go_wp2
      go_ret
      exact ⟨rfl, rfl⟩
  · clear h
    go_enter Try.func32, Try.ntmps32
    go_wp2
    go_ret
    exact ⟨rfl, rfl⟩
set_option maxRecDepth 100000 in
set_option maxHeartbeats 400000 in
theorem get_any (n a b : Nat) (hn : n < 18446744073709551616) (h : a + b ≤ 64) (w : World) :
    Calls Try.prog 12 #[.int .u64 (n : Int), .int .i64 (a : Int), .int .i64 (b : Int)] w fun e w' => e = .returned (.tuple #[.int .u64 ((n / 2 ^ a % 2 ^ b : Nat) : Int), .int .i64 0]) ∧ ∃ q, w' = w.drewN q := by
  have ha : a ≤ 64 := by omega
  have hb : b ≤ 64 := by omega
  have HG : Hid (bits .and .u64 ((n : Int) / 2 ^ a) ((2 ^ b - 1 : Nat) : Int) = ((n / 2 ^ a % 2 ^ b : Nat) : Int)) := Lib.hid (by
    have e : (n : Int) / 2 ^ a = ((n / 2 ^ a : Nat) : Int) := by rw [Int.natCast_ediv]; simp
    have h1 : n / 2 ^ a ≤ n := Nat.div_le_self _ _
    have hle : 2 ^ b ≤ 2 ^ 64 := Nat.pow_le_pow_right (by omega) hb
    have hp := Nat.two_pow_pos b
    rw [e, u64_and _ _ (by omega) (by omega), Nat.and_two_pow_sub_one_eq_mod])
  go_enter Try.func12, Try.ntmps12
  go_wp2_with fail
  refine (within_yes _ _ h _).mono ?_
  rintro e w' ⟨rfl, rfl⟩
  go_wp2_with fail
  go_quiet ((go_at_call 33; exact Calls.quiet_of_same (same_of (ones_any b hb _))))
  go_wp2
  go_ret2
  exact ⟨ret_two HG.out rfl, _, rfl⟩
set_option maxRecDepth 100000 in
set_option maxHeartbeats 400000 in
theorem get_no (n : Nat) (a b : Int) (ha : -9223372036854775808 ≤ a ∧ a ≤ 9223372036854775807) (h : ¬ fieldB a b) (w : World) :
    Calls Try.prog 12 #[.int .u64 (n : Int), .int .i64 a, .int .i64 b] w fun e w' => e = .returned (.tuple #[.int .u64 0, .int .i64 1]) ∧ w = w' := by
  go_enter Try.func12, Try.ntmps12
  go_wp2_with fail
  refine (within_no _ _ ha h _).mono ?_
  rintro e w' ⟨rfl, rfl⟩
  go_wp2
  go_ret2
  exact ⟨rfl, rfl⟩
def setN (n a b t : Nat) : Nat := (n &&& (18446744073709551615 - (2 ^ b - 1) * 2 ^ a)) ||| t * 2 ^ a
theorem mask_lt (a b : Nat) (h : a + b ≤ 64) : (2 ^ b - 1) * 2 ^ a < 2 ^ 64 := by
  have h1 : (2 ^ b - 1) * 2 ^ a < 2 ^ b * 2 ^ a := Nat.mul_lt_mul_of_pos_right (by have := Nat.two_pow_pos b; omega) (Nat.two_pow_pos _)
  rw [← Nat.pow_add] at h1
  exact Nat.lt_of_lt_of_le h1 (Nat.pow_le_pow_right (by omega) (by omega))
theorem setN_bit (n a b t : Nat) (hn : n < 18446744073709551616) (h : a + b ≤ 64) (ht : t < 2 ^ b) (i : Nat) :
    (setN n a b t).testBit i = if a ≤ i ∧ i < a + b then t.testBit (i - a) else n.testBit i := by
  unfold setN
  have hm := mask_lt a b h
  rw [Nat.testBit_or, Nat.testBit_and, Nat.testBit_mul_two_pow, show 18446744073709551615 - (2 ^ b - 1) * 2 ^ a = 2 ^ 64 - ((2 ^ b - 1) * 2 ^ a + 1) by omega, Nat.testBit_two_pow_sub_succ hm, Nat.testBit_mul_two_pow, Nat.testBit_two_pow_sub_one]
  by_cases h1 : a ≤ i
  · by_cases h2 : i < a + b
    · simp [h1, h2, show i - a < b by omega]
    · have : t.testBit (i - a) = false := Nat.testBit_lt_two_pow (Nat.lt_of_lt_of_le ht (Nat.pow_le_pow_right (by omega) (by omega)))
      by_cases h3 : i < 64
      · simp [h1, h2, h3, this, show ¬ (i - a < b) by omega]
      · have : n.testBit i = false := Nat.testBit_lt_two_pow (Nat.lt_of_lt_of_le (show n < 2 ^ 64 by omega) (Nat.pow_le_pow_right (by omega) (by omega)))
        simp [*]
  · have h3 : i < 64 := by omega
    simp [h1, h3]
theorem setN_lt (n a b t : Nat) (hn : n < 18446744073709551616) (h : a + b ≤ 64) (ht : t < 2 ^ b) : setN n a b t < 18446744073709551616 := by
  unfold setN
  have h1 : t * 2 ^ a < 2 ^ b * 2 ^ a := Nat.mul_lt_mul_of_pos_right ht (Nat.two_pow_pos _)
  rw [← Nat.pow_add] at h1
  have h2 : 2 ^ (b + a) ≤ 2 ^ 64 := Nat.pow_le_pow_right (by omega) (by omega)
  exact Nat.or_lt_two_pow (n := 64) (Nat.lt_of_le_of_lt Nat.and_le_left (by omega)) (by omega)
theorem set_val (n a b t : Nat) (hn : n < 18446744073709551616) (h : a + b ≤ 64) (ht : t < 2 ^ b) :
    bits .or .u64 (bits .andNot .u64 (n : Int) (IntKind.u64.wrap (((2 ^ b - 1 : Nat) : Int) * 2 ^ a))) (IntKind.u64.wrap ((t : Int) * 2 ^ a)) = (setN n a b t : Int) := by
  have hm := mask_lt a b h
  have h1 : t * 2 ^ a < 2 ^ b * 2 ^ a := Nat.mul_lt_mul_of_pos_right ht (Nat.two_pow_pos _)
  rw [← Nat.pow_add] at h1
  have h2 : 2 ^ (b + a) ≤ 2 ^ 64 := Nat.pow_le_pow_right (by omega) (by omega)
  have e1 : IntKind.u64.wrap (((2 ^ b - 1 : Nat) : Int) * 2 ^ a) = (((2 ^ b - 1) * 2 ^ a : Nat) : Int) := by
    have : ((2 ^ b - 1 : Nat) : Int) * 2 ^ a = (((2 ^ b - 1) * 2 ^ a : Nat) : Int) := by rw [Int.natCast_mul]; simp
    rw [this, u64_val, uN_val]; omega
  have e2 : IntKind.u64.wrap ((t : Int) * 2 ^ a) = ((t * 2 ^ a : Nat) : Int) := by
    have : (t : Int) * 2 ^ a = ((t * 2 ^ a : Nat) : Int) := by rw [Int.natCast_mul]; simp
    rw [this, u64_val, uN_val]; omega
  have h3 : n &&& (18446744073709551615 - (2 ^ b - 1) * 2 ^ a) ≤ n := Nat.and_le_left
  rw [e1, e2, u64_andNot _ _ hn (by omega), u64_or _ _ (by omega) (by omega)]; rfl
end Go.Proofs.Ytjdnjobaoiecoaa.CV
