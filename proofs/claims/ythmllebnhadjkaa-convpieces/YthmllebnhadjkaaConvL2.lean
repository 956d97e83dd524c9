/-
  The laws ConvWraps and ConvRounds, walked.
-/
import Derived.Test.YthmllebnhadjkaaConvR5
namespace Go.Proofs.Ythmllebnhadjkaa
open Go.RowKit

theorem turn_bits {kind : Int} (hk : 0 ≤ kind ∧ kind ≤ 7) (n m : Int) (i : Nat) (hi : i < widN kind) :
    (uN (turnI kind n m)).testBit i = (uN n).testBit ((i + (widN kind - (m % (widN kind : Nat)).toNat)) % widN kind) := by
  have hwid : 8 ≤ widN kind ∧ widN kind ≤ 64 := by rcases wid_le kind with h | h | h | h <;> omega
  have hm1 := Int.emod_lt_of_pos m (show (0 : Int) < ((widN kind : Nat) : Int) by omega)
  have hm0 := Int.emod_nonneg m (show ((widN kind : Nat) : Int) ≠ 0 by omega)
  unfold turnI
  rw [uN_fit hk _ i hi]
  have e : ∀ y : Nat, uN (y : Int) = y % 2 ^ 64 := fun y => by unfold uN; omega
  rw [e, Nat.testBit_mod_two_pow, decide_eq_true (show i < 64 by omega), Bool.true_and, rot_bit _ _ _ (Nat.mod_lt _ (Nat.two_pow_pos _)) (by omega) i hi, Nat.testBit_mod_two_pow, decide_eq_true (Nat.mod_lt _ (by omega)), Bool.true_and]
theorem turn_fit {kind : Int} (hk : 0 ≤ kind ∧ kind ≤ 7) (n m : Int) (x : Nat) (h : ∀ i, i < widN kind → (uN n).testBit ((i + (widN kind - (m % (widN kind : Nat)).toNat)) % widN kind) = x.testBit i) : turnI kind n m = fitI kind (x : Int) := by
  have hwid : 8 ≤ widN kind ∧ widN kind ≤ 64 := by rcases wid_le kind with h | h | h | h <;> omega
  have hm1 := Int.emod_lt_of_pos m (show (0 : Int) < ((widN kind : Nat) : Int) by omega)
  have hm0 := Int.emod_nonneg m (show ((widN kind : Nat) : Int) ≠ 0 by omega)
  unfold turnI
  apply fit_ext hk
  intro i hi
  rw [rot_bit _ _ _ (Nat.mod_lt _ (Nat.two_pow_pos _)) (by omega) i hi, Nat.testBit_mod_two_pow, decide_eq_true (Nat.mod_lt _ (by omega)), Bool.true_and]
  exact h i hi
theorem turn_turn {kind : Int} (hk : 0 ≤ kind ∧ kind ≤ 7) (n a b c : Int) (h : (a + b) % (widN kind : Nat) = c % (widN kind : Nat)) : turnI kind (turnI kind n a) b = turnI kind n c := by
  have hfx : turnI kind n c = fitI kind (uN (turnI kind n c) : Int) := by
    rw [fit_uN]; unfold turnI; rw [fit_fit]
  rw [hfx]
  apply turn_fit hk
  intro i hi
  have hwid : 8 ≤ widN kind ∧ widN kind ≤ 64 := by rcases wid_le kind with h | h | h | h <;> omega
  rw [turn_bits hk n c i hi, turn_bits hk n a _ (Nat.mod_lt _ (by omega))]
  congr 1
  have hw := wid_le kind
  generalize widN kind = w at *
  rcases hw with h2 | h2 | h2 | h2 <;> subst h2 <;> omega
theorem turn_zero {kind : Int} (hk : 0 ≤ kind ∧ kind ≤ 7) (n a : Int) (h : a % (widN kind : Nat) = 0) : turnI kind n a = fitI kind n := by
  rw [← fit_uN (kind := kind) n]
  apply turn_fit hk
  intro i hi
  rw [h]; simp [Nat.mod_eq_of_lt hi]

namespace convWraps
set_option maxRecDepth 100000 in
set_option maxHeartbeats 800000 in
theorem walk (a0 a1 : Int) (_w0 : (Lit.int .i64 a0).wf = true) (w1 : (Lit.int .i64 a1).wf = true) (w : World) :
    Calls Try.prog 3 #[.int .i64 a0, .int .i64 a1] w fun e w' => e = .returned (.bool true) ∧ Below w.heap.size w w' := by
  have hr := wf_i64 w1
  by_cases hk : 0 ≤ a0 ∧ a0 ≤ 7
  · have hwid : 8 ≤ widN a0 ∧ widN a0 ≤ 64 := by rcases wid_le a0 with h | h | h | h <;> omega
    have h0 : ((widN a0 : Int) == 0) = false := by rw [beq_eq_false_iff_ne]; omega
    go_enter Try.func3, Try.ntmps3
    go_wp2_with fail
    refine (docwrap_any a0 hk a1 _).mono ?_
    rintro e wa ⟨rfl, hb⟩
    have HB1 := Lib.hid hb
    clear hb
    go_wp2_with fail
    refine (wrap_any a0 hk a1 _).mono ?_
    rintro e w' ⟨rfl, rfl⟩
    go_wp2_with fail
    refine (docclamp_any a0 hk a1 hr _).mono ?_
    rintro e wb ⟨rfl, hb⟩
    have HB2 := Lib.hid (below_next HB1.out hb)
    clear hb
    go_wp2_with fail
    refine (clamp_any a0 hk a1 _).mono ?_
    rintro e w' ⟨rfl, rfl⟩
    go_wp2_with fail
    refine (docswap_any a0 hk a1 _).mono ?_
    rintro e wc ⟨rfl, hb⟩
    have HB3 := Lib.hid (below_next HB2.out hb)
    clear hb
    go_wp2_with fail
    refine (swap_any a0 hk a1 _).mono ?_
    rintro e w' ⟨rfl, rfl⟩
    go_wp2_with fail
    refine (bits_any a0 hk _).mono ?_
    rintro e w' ⟨rfl, rfl⟩
    go_wp2_with fail
    refine (width_any a0 hk _).mono ?_
    rintro e wd ⟨rfl, hb⟩
    have HB4 := Lib.hid (below_next HB3.out hb)
    clear hb
    go_wp2_with fail
    refine (wraps_any _).mono ?_
    rintro e w' ⟨rfl, rfl⟩
    go_wp2_with fail
    refine (width_any a0 hk _).mono ?_
    rintro e wf ⟨rfl, hb⟩
    have HB5 := Lib.hid (below_next HB4.out hb)
    clear hb
    go_wp2
    go_ret
    exact ⟨rfl, HB5.out⟩
  · have hn : a0 < 0 ∨ 7 < a0 := by omega
    clear hk
    go_enter Try.func3, Try.ntmps3
    go_wp2_with fail
    refine (docwrap_no a0 hn a1 _).mono ?_
    rintro e w' ⟨rfl, rfl⟩
    go_wp2_with fail
    refine (wrap_no a0 hn a1 _).mono ?_
    rintro e w' ⟨rfl, rfl⟩
    go_wp2_with fail
    refine (docclamp_no a0 hn a1 _).mono ?_
    rintro e w' ⟨rfl, rfl⟩
    go_wp2_with fail
    refine (clamp_no a0 hn a1 _).mono ?_
    rintro e w' ⟨rfl, rfl⟩
    go_wp2_with fail
    refine (docswap_no a0 hn a1 _).mono ?_
    rintro e w' ⟨rfl, rfl⟩
    go_wp2_with fail
    refine (swap_no a0 hn a1 _).mono ?_
    rintro e w' ⟨rfl, rfl⟩
    go_wp2_with fail
    refine (bits_no a0 hn _).mono ?_
    rintro e w' ⟨rfl, rfl⟩
    go_wp2_with fail
    refine (width_no a0 hn _).mono ?_
    rintro e w' ⟨rfl, rfl⟩
    go_wp2_with fail
    refine (wraps_any _).mono ?_
    rintro e w' ⟨rfl, rfl⟩
    go_wp2
    go_ret
    exact ⟨rfl, Below.refl _ _⟩
end convWraps

namespace convRounds
set_option maxRecDepth 100000 in
set_option maxHeartbeats 800000 in
theorem walk (a0 a1 a2 : Int) (_w0 : (Lit.int .i64 a0).wf = true) (_w1 : (Lit.int .i64 a1).wf = true) (_w2 : (Lit.int .i64 a2).wf = true) (w : World) :
    Calls Try.prog 5 #[.int .i64 a0, .int .i64 a1, .int .i64 a2] w fun e w' => e = .returned (.bool true) ∧ Below w.heap.size w w' := by
  by_cases hk : 0 ≤ a0 ∧ a0 ≤ 7
  · obtain ⟨q, hq⟩ : ∃ q, a2.tmod 64 = q := ⟨_, rfl⟩
    obtain ⟨k, hkk⟩ : ∃ k, a2.tmod 1000 = k := ⟨_, rfl⟩
    have hqb : -64 < q ∧ q < 64 := by rw [← hq, Int.tmod_eq_emod]; split <;> (simp; omega)
    have hkb : -1000 < k ∧ k < 1000 := by rw [← hkk, Int.tmod_eq_emod]; split <;> (simp; omega)
    have H1 : Hid (turnI a0 (turnI a0 a1 a2) (-q) = fitI a0 a1) := Lib.hid (by
      rw [turn_turn hk a1 a2 (-q) (a2 + -q) rfl]
      apply turn_zero hk
      have hw := wid_le a0
      generalize widN a0 = b at *
      rw [← hq, Int.tmod_eq_emod]
      rcases hw with h | h | h | h <;> subst h <;> split <;> (simp; omega))
    have H2 : Hid (turnI a0 (turnI a0 a1 k) 13 = turnI a0 a1 (k + 13)) := Lib.hid (turn_turn hk a1 k 13 (k + 13) rfl)
    go_enter Try.func5, Try.ntmps5
    go_wp2_with fail
    refine (docturn_any a0 hk a1 a2 _).mono ?_
    rintro e wa ⟨rfl, hb⟩
    have HB1 := Lib.hid hb
    clear hb
    go_wp2_with fail
    refine (turn_any a0 hk a1 a2 _).mono ?_
    rintro e w' ⟨rfl, nq, rfl⟩
    go_wp2_with fail
    refine (wraps_any _).mono ?_
    rintro e w' ⟨rfl, rfl⟩
    go_wp2_with fail
    refine (wrap_any a0 hk a1 _).mono ?_
    rintro e w' ⟨rfl, rfl⟩
    go_wp2_with fail
    refine (turn_any a0 hk _ _ _).mono ?_
    rintro e w' ⟨rfl, nq2, rfl⟩
    rw [H1.out]
    go_wp2_with fail
    refine (turn_any a0 hk _ _ _).mono ?_
    rintro e w' ⟨rfl, nq3, rfl⟩
    go_wp2_with fail
    refine (turn_any a0 hk _ _ _).mono ?_
    rintro e w' ⟨rfl, nq4, rfl⟩
    rw [H2.out]
    go_wp2_with fail
    refine (turn_any a0 hk _ _ _).mono ?_
    rintro e w' ⟨rfl, nq5, rfl⟩
    go_wp2
    go_ret
    exact ⟨rfl, HB1.out.trans (below_drewN _ _ _)⟩
  · have hn : a0 < 0 ∨ 7 < a0 := by omega
    clear hk
    go_enter Try.func5, Try.ntmps5
    go_wp2_with fail
    refine (docturn_no a0 hn a1 a2 _).mono ?_
    rintro e w' ⟨rfl, rfl⟩
    go_wp2_with fail
    refine (turn_no a0 hn a1 a2 _).mono ?_
    rintro e w' ⟨rfl, rfl⟩
    go_wp2_with fail
    refine (wraps_any _).mono ?_
    rintro e w' ⟨rfl, rfl⟩
    go_wp2
    go_ret
    exact ⟨rfl, Below.refl _ _⟩
end convRounds
end Go.Proofs.Ythmllebnhadjkaa
