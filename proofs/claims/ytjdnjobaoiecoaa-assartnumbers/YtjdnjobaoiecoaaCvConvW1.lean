/-
  What the functions of package conv answer.
-/
import Derived.Test.YtjdnjobaoiecoaaProg
import Derived.Test.YtjdnjobaoiecoaaCvConvPure
import Derived.WalkKit
import Derived.WalkSpells
import Derived.WalkLawsBesides
import Derived.BigQuiet
import Derived.Lib.Hide
import Derived.Outline
import Derived.Deep.LoopGhost
import Derived.Deep.QuietTactic
namespace Go.Proofs.Ytjdnjobaoiecoaa.CV
open Go.RowKit

theorem ret_int {k : IntKind} {a b : Int} (h : a = b) : Ending.returned (.int k a) = .returned (.int k b) := by rw [h]
theorem ret_two {k j : IntKind} {a b c d : Int} (h : a = b) (h2 : c = d) : Ending.returned (.tuple #[.int k a, .int j c]) = .returned (.tuple #[.int k b, .int j d]) := by rw [h, h2]
theorem same_of {P : Program} {f : Nat} {a : Array Value} {w : World} {r : Ending} (h : Calls P f a w (fun e w' => e = r ∧ w = w')) : Calls P f a w (fun e w' => e = r ∧ w' = w) := h.mono fun _ _ ⟨he, hw⟩ => ⟨he, hw.symm⟩

set_option maxRecDepth 100000 in
set_option maxHeartbeats 400000 in
theorem fit_any (kind : Int) (hk : 0 ≤ kind ∧ kind ≤ 7) (x : Int) (w : World) :
    Calls Try.prog 36 #[.int .i64 kind, .int .u64 x] w fun e w' => e = .returned (.int .i64 (fitI kind x)) ∧ w = w' := by
  rcases kinds hk with rfl | rfl | rfl | rfl | rfl | rfl | rfl | rfl
  all_goals
    clear hk
    go_enter Try.func36, Try.ntmps36
    go_wp2
    go_ret
    exact ⟨ret_int (by
      simp only [fitI, IntKind.wrap, IntKind.bits, IntKind.signed, wrap64, wrap32]
      simp
      try (repeat' split)
      all_goals omega), rfl⟩
set_option maxRecDepth 100000 in
set_option maxHeartbeats 400000 in
theorem bits_any (kind : Int) (hk : 0 ≤ kind ∧ kind ≤ 7) (w : World) :
    Calls Try.prog 35 #[.int .i64 kind] w fun e w' => e = .returned (.tuple #[.int .i64 (widN kind : Int), .bool (decide (kind < 4)), .int .i64 0]) ∧ w = w' := by
  rcases kinds hk with rfl | rfl | rfl | rfl | rfl | rfl | rfl | rfl
  all_goals
    clear hk
    go_enter Try.func35, Try.ntmps35
    go_wp2
    go_ret3
    exact ⟨rfl, rfl⟩
set_option maxRecDepth 100000 in
set_option maxHeartbeats 400000 in
theorem bits_no (kind : Int) (hk : kind < 0 ∨ 7 < kind) (w : World) :
    Calls Try.prog 35 #[.int .i64 kind] w fun e w' => e = .returned (.tuple #[.int .i64 0, .bool false, .int .i64 1]) ∧ w = w' := by
  by_cases h : kind < 0
  · clear hk
    go_enter Try.func35, Try.ntmps35
    go_wp2
    go_ret3
    exact ⟨rfl, rfl⟩
  · have h7 : 7 < kind := by omega
    clear hk
    go_enter Try.func35, Try.ntmps35
    go_wp2
    go_ret3
    exact ⟨rfl, rfl⟩
theorem ones_val (n : Nat) (hn : n ≤ 64) : IntKind.u64.wrap (IntKind.u64.wrap (2 ^ n) - 1) = ((2 ^ n - 1 : Nat) : Int) := by
  have hp : 0 < 2 ^ n := Nat.two_pow_pos n
  have e : (2 : Int) ^ n = ((2 ^ n : Nat) : Int) := by simp
  rw [e]
  have hle : 2 ^ n ≤ 2 ^ 64 := Nat.pow_le_pow_right (by omega) hn
  generalize 2 ^ n = p at *
  simp only [IntKind.wrap, IntKind.bits, IntKind.signed]; simp
  omega
set_option maxRecDepth 100000 in
set_option maxHeartbeats 400000 in
theorem ones_any (n : Nat) (hn : n ≤ 64) (w : World) :
    Calls Try.prog 33 #[.int .i64 (n : Int)] w fun e w' => e = .returned (.int .u64 ((2 ^ n - 1 : Nat) : Int)) ∧ w = w' := by
  have HO := Lib.hid (ones_val n hn)
  go_enter Try.func33, Try.ntmps33
  go_wp2
  go_ret
  exact ⟨ret_int HO.out, rfl⟩

theorem ones_lit (b v : Int) (n : Nat) (hb : b = n) (hv : v = ((2 ^ n - 1 : Nat) : Int)) (hn : n ≤ 64) (w : World) :
    Calls Try.prog 33 #[.int .i64 b] w fun e w' => e = .returned (.int .u64 v) ∧ w = w' := by
  subst hb; subst hv; exact ones_any n hn w
theorem u64_val (n : Int) : IntKind.u64.wrap n = (uN n : Int) := by
  rw [uN_val]; simp [IntKind.wrap, IntKind.bits, IntKind.signed]
theorem left_val {kind : Int} (n : Int) (m : Nat) : fitI kind (IntKind.u64.wrap (IntKind.u64.wrap n * 2 ^ min m 64)) = fitI kind (n * 2 ^ m) := by
  rw [u64_val, fit_uN]
  rcases Nat.le_total m 64 with h | h
  · rw [Nat.min_eq_left h]
    apply fit_congr
    rw [u64_val, uN_val, Int.mul_emod, Int.emod_emod, ← Int.mul_emod]
  · rw [Nat.min_eq_right h]
    apply fit_congr
    have e : (2 : Int) ^ 64 = 18446744073709551616 := by decide
    have e2 : (2 : Int) ^ m = 2 ^ (m - 64) * 18446744073709551616 := by rw [← e, ← Int.pow_add]; congr 1; omega
    rw [e2, e, ← Int.mul_assoc, Int.mul_emod_left, Int.mul_emod_left]

set_option maxRecDepth 100000 in
set_option maxHeartbeats 400000 in
theorem wrap_any (kind : Int) (hk : 0 ≤ kind ∧ kind ≤ 7) (n : Int) (w : World) :
    Calls Try.prog 20 #[.int .i64 kind, .int .i64 n] w fun e w' => e = .returned (.tuple #[.int .i64 (fitI kind n), .int .i64 0]) ∧ w = w' := by
  have HV : Hid (fitI kind (IntKind.u64.wrap n) = fitI kind n) := Lib.hid (by rw [u64_val, fit_uN])
  go_enter Try.func20, Try.ntmps20
  go_wp2_with fail
  refine (bits_any _ hk _).mono ?_
  rintro e w' ⟨rfl, rfl⟩
  go_wp2_with fail
  refine (fit_any _ hk _ _).mono ?_
  rintro e w' ⟨rfl, rfl⟩
  go_wp2
  go_ret2
  exact ⟨ret_two HV.out rfl, rfl⟩
set_option maxRecDepth 100000 in
set_option maxHeartbeats 400000 in
theorem wrap_no (kind : Int) (hk : kind < 0 ∨ 7 < kind) (n : Int) (w : World) :
    Calls Try.prog 20 #[.int .i64 kind, .int .i64 n] w fun e w' => e = .returned (.tuple #[.int .i64 0, .int .i64 1]) ∧ w = w' := by
  go_enter Try.func20, Try.ntmps20
  go_wp2_with fail
  refine (bits_no _ hk _).mono ?_
  rintro e w' ⟨rfl, rfl⟩
  go_wp2
  go_ret2
  exact ⟨rfl, rfl⟩
theorem lo_hi {kind : Int} (hk : 0 ≤ kind ∧ kind ≤ 7) : loI kind ≤ hiI kind := by
  rcases kinds hk with rfl | rfl | rfl | rfl | rfl | rfl | rfl | rfl <;> decide
theorem u64_ofInt (n : Int) : BitVec.ofInt 64 n = BitVec.ofNat 64 (uN n) := by
  apply BitVec.eq_of_toNat_eq; rw [BitVec.toNat_ofInt, BitVec.toNat_ofNat]
  have := uN_lt n
  rw [Nat.mod_eq_of_lt (by omega)]; unfold uN; rfl
theorem u64_and (x y : Nat) (hx : x < 18446744073709551616) (hy : y < 18446744073709551616) : bits .and .u64 (x : Int) (y : Int) = ((x &&& y : Nat) : Int) := by
  show IntKind.u64.wrap ((BitVec.ofInt 64 (x : Int) &&& BitVec.ofInt 64 (y : Int)).toNat : Int) = _
  rw [BitVec.toNat_and, BitVec.ofInt_natCast, BitVec.ofInt_natCast, BitVec.toNat_ofNat, BitVec.toNat_ofNat, Nat.mod_eq_of_lt (by omega), Nat.mod_eq_of_lt (by omega), u64_val]
  have : x &&& y < 2 ^ 64 := Nat.and_lt_two_pow _ (by omega)
  rw [uN_val]; omega
theorem u64_or (x y : Nat) (hx : x < 18446744073709551616) (hy : y < 18446744073709551616) : bits .or .u64 (x : Int) (y : Int) = ((x ||| y : Nat) : Int) := by
  show IntKind.u64.wrap ((BitVec.ofInt 64 (x : Int) ||| BitVec.ofInt 64 (y : Int)).toNat : Int) = _
  rw [BitVec.toNat_or, BitVec.ofInt_natCast, BitVec.ofInt_natCast, BitVec.toNat_ofNat, BitVec.toNat_ofNat, Nat.mod_eq_of_lt (by omega), Nat.mod_eq_of_lt (by omega), u64_val]
  have : x ||| y < 2 ^ 64 := Nat.or_lt_two_pow (by omega) (by omega)
  rw [uN_val]; omega
theorem u64_andNot (x y : Nat) (hx : x < 18446744073709551616) (hy : y < 18446744073709551616) : bits .andNot .u64 (x : Int) (y : Int) = ((x &&& (18446744073709551615 - y) : Nat) : Int) := by
  show IntKind.u64.wrap ((BitVec.ofInt 64 (x : Int) &&& ~~~BitVec.ofInt 64 (y : Int)).toNat : Int) = _
  rw [BitVec.toNat_and, BitVec.toNat_not, BitVec.ofInt_natCast, BitVec.ofInt_natCast, BitVec.toNat_ofNat, BitVec.toNat_ofNat, Nat.mod_eq_of_lt (by omega), Nat.mod_eq_of_lt (by omega), u64_val]
  have e : 2 ^ 64 - 1 - y = 18446744073709551615 - y := by omega
  rw [e]
  have : x &&& (18446744073709551615 - y) < 2 ^ 64 := Nat.and_lt_two_pow _ (by omega)
  rw [uN_val]; omega
/-- The lowest bits of an int of either sign. -/
theorem i64_low (n : Int) (b : Nat) (hb : b ≤ 6) : bits .and .i64 n ((2 ^ b - 1 : Nat) : Int) = n % ((2 ^ b : Nat) : Int) := by
  have hle : 2 ^ b ≤ 2 ^ 6 := Nat.pow_le_pow_right (by omega) hb
  have hp : 0 < 2 ^ b := Nat.two_pow_pos _
  have hd : ∃ c, 18446744073709551616 = 2 ^ b * c := ⟨2 ^ (64 - b), by rw [← Nat.pow_add, show b + (64 - b) = 64 by omega]⟩
  show IntKind.i64.wrap ((BitVec.ofInt 64 n &&& BitVec.ofInt 64 ((2 ^ b - 1 : Nat) : Int)).toNat : Int) = _
  have e : (BitVec.ofInt 64 n &&& BitVec.ofInt 64 ((2 ^ b - 1 : Nat) : Int)).toNat = uN n % 2 ^ b := by
    have hu := uN_lt n
    rw [BitVec.toNat_and, u64_ofInt, BitVec.ofInt_natCast, BitVec.toNat_ofNat, BitVec.toNat_ofNat, Nat.mod_eq_of_lt (by omega), Nat.mod_eq_of_lt (by omega), Nat.and_two_pow_sub_one_eq_mod]
  rw [e]
  have h1 : ((uN n % 2 ^ b : Nat) : Int) = n % ((2 ^ b : Nat) : Int) := by
    rw [Int.natCast_emod, uN_val]
    obtain ⟨c, hc⟩ := hd
    have : (18446744073709551616 : Int) = ((2 ^ b : Nat) : Int) * (c : Int) := by rw [← Int.natCast_mul, ← hc]; rfl
    rw [this]; exact Int.emod_emod_of_dvd _ ⟨_, rfl⟩
  rw [h1]
  have h2 := Int.emod_nonneg n (show ((2 ^ b : Nat) : Int) ≠ 0 by omega)
  have h3 := Int.emod_lt_of_pos n (show (0 : Int) < ((2 ^ b : Nat) : Int) by omega)
  rw [IntKind.wrap_i64]; omega
end Go.Proofs.Ytjdnjobaoiecoaa.CV
