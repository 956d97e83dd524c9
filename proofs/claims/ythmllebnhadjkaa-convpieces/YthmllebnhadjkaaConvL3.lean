/-
  The law ConvFields, walked.
-/
import Derived.Test.YthmllebnhadjkaaConvR6
namespace Go.Proofs.Ythmllebnhadjkaa
open Go.RowKit

theorem set_both (n a b t : Nat) (hn : n < 18446744073709551616) (h : a + b ≤ 64) (w : World) :
    Calls Try.prog 29 #[.int .u64 (n : Int), .int .i64 (a : Int), .int .i64 (b : Int), .int .u64 (t : Int)] w fun e w' => e = .returned (setV n a b t) ∧ ∃ q, w' = w.drewN q := by
  by_cases ht : t < 2 ^ b
  · unfold setV; rw [if_pos ht]; exact set_any n a b t hn h ht w
  · unfold setV; rw [if_neg ht]; exact (set_big n a b t h (by omega) w).mono fun _ _ ⟨he, hw⟩ => ⟨he, 0, by rw [← hw]; rfl⟩
theorem set_get (n a b t : Nat) (hn : n < 18446744073709551616) (h : a + b ≤ 64) (ht : t < 2 ^ b) : setN n a b t / 2 ^ a % 2 ^ b = t := by
  apply Nat.eq_of_testBit_eq; intro i
  rw [Nat.testBit_mod_two_pow, Nat.testBit_div_two_pow, setN_bit n a b t hn h ht]
  by_cases hi : i < b
  · simp [hi, show a ≤ i + a ∧ i + a < a + b by omega]
  · rw [Nat.testBit_lt_two_pow (Nat.lt_of_lt_of_le ht (Nat.pow_le_pow_right (by omega) (show b ≤ i by omega)))]; simp [hi]
theorem set_back (n a b t : Nat) (hn : n < 18446744073709551616) (h : a + b ≤ 64) (ht : t < 2 ^ b) : setN (setN n a b t) a b (n / 2 ^ a % 2 ^ b) = n := by
  have h1 : n / 2 ^ a % 2 ^ b < 2 ^ b := Nat.mod_lt _ (Nat.two_pow_pos _)
  apply Nat.eq_of_testBit_eq; intro i
  rw [setN_bit _ a b _ (setN_lt n a b t hn h ht) h h1, setN_bit n a b t hn h ht]
  by_cases hi : a ≤ i ∧ i < a + b
  · rw [if_pos hi, Nat.testBit_mod_two_pow, Nat.testBit_div_two_pow, decide_eq_true (show i - a < b by omega), Bool.true_and]; congr 1; omega
  · rw [if_neg hi, if_neg hi]

namespace convFields
set_option maxRecDepth 100000 in
set_option maxHeartbeats 1600000 in
theorem walk (a0 a1 a2 : Int) (w0 : (Lit.int .u64 a0).wf = true) (w1 : (Lit.int .i64 a1).wf = true) (_w2 : (Lit.int .i64 a2).wf = true) (w : World) :
    Calls Try.prog 6 #[.int .u64 a0, .int .i64 a1, .int .i64 a2] w fun e w' => e = .returned (.bool true) ∧ Below w.heap.size w w' := by
  obtain ⟨n, rfl, hn⟩ := wf_u64 w0
  have hr := wf_i64 w1
  clear w0 w1
  obtain ⟨T, hT, HTO⟩ : ∃ T : Nat, T < 18446744073709551616 ∧ Hid (bits .xor .u64 ((n : Int) / 128) 11400714819323198485 = (T : Int)) := by
    have h1 : 0 ≤ bits .xor .u64 ((n : Int) / 128) 11400714819323198485 ∧ bits .xor .u64 ((n : Int) / 128) 11400714819323198485 < 18446744073709551616 := by
      have h2 : ∀ z : Int, 0 ≤ IntKind.u64.wrap z ∧ IntKind.u64.wrap z < 18446744073709551616 := fun z => by rw [u64_val]; have := uN_lt z; omega
      exact h2 ((BitVec.ofInt 64 ((n : Int) / 128) ^^^ BitVec.ofInt 64 11400714819323198485).toNat : Int)
    exact ⟨(bits .xor .u64 ((n : Int) / 128) 11400714819323198485).toNat, by omega, Lib.hid (by omega)⟩
  by_cases hf : fieldB a1 a2
  · obtain ⟨f1, f2, f3⟩ := hf
    obtain ⟨a, rfl⟩ := Int.eq_ofNat_of_zero_le f1
    obtain ⟨b, rfl⟩ := Int.eq_ofNat_of_zero_le f2
    have hab : a + b ≤ 64 := by omega
    have hb64 : b ≤ 64 := by omega
    clear f1 f2 f3 hr
    obtain ⟨m, hm⟩ : ∃ m : Nat, n / 2 ^ a % 2 ^ b = m := ⟨_, rfl⟩
    have HM := Lib.hid hm
    have hmb : m < 2 ^ b := by rw [← hm]; exact Nat.mod_lt _ (Nat.two_pow_pos _)
    have HMB := Lib.hid hmb
    clear hm hmb
    go_enter Try.func6, Try.ntmps6
    go_wp2_with fail
    refine (docget_any n a b hn hab _).mono ?_
    rintro e wa ⟨rfl, hb1⟩
    have HB1 := Lib.hid hb1
    clear hb1
    rw [HM.out]
    go_wp2_with fail
    refine (get_any n a b hn hab _).mono ?_
    rintro e w' ⟨rfl, nq, rfl⟩
    rw [HM.out]
    go_wp2_with fail
    refine (wraps_any _).mono ?_
    rintro e w' ⟨rfl, rfl⟩
    go_wp2_with fail
    rw [HTO.out]
    have HB2 := Lib.hid (HB1.out.trans (below_drewN _ wa nq))
    generalize wa.drewN nq = wb at *
    go_loopw [11, 12] (fun x i wr => ∃ (t k : Nat), t < 18446744073709551616 ∧ k ≤ 2 ∧ x = .int .u64 (t : Int) ∧ i = .int .i64 (k : Int) ∧ Hid (Below w.heap.size w wr)) (fun _ i _ => 2 - (intOf i).toNat)
    case atStart => exact ⟨T, 0, hT, by omega, rfl, rfl, HB2.out⟩
    case round =>
      obtain ⟨t, k, ht, hk, rfl, rfl, hI⟩ := hrel
      by_cases hlt : k < 2
      · have hsh : (t : Int) / 2 ^ (64 - b) = ((t / 2 ^ (64 - b) : Nat) : Int) := by rw [Int.natCast_ediv]; simp
        have hle : t / 2 ^ (64 - b) ≤ t := Nat.div_le_self _ _
        have HSH := Lib.hid hsh
        clear hsh
        have hneg : ¬ ((64 : Int) - b < 0) := by omega
        by_cases htb : t < 2 ^ b
        · have HS1 := Lib.hid (set_get n a b t hn hab htb)
          have HS2 := Lib.hid (set_back n a b t hn hab htb)
          have hsl := setN_lt n a b t hn hab htb
          have HV : Hid (setV n a b t = .tuple #[.int .u64 (setN n a b t : Int), .int .i64 0]) := Lib.hid (by unfold setV; rw [if_pos htb])
          have HMB2 : Hid (setV (setN n a b t) a b m = .tuple #[.int .u64 (n : Int), .int .i64 0]) := Lib.hid (by
            unfold setV; rw [if_pos HMB.out, ← HM.out, HS2.out])
          generalize setN n a b t = s at *
          go_wp2_with fail
          refine (docset_any n a b t hn ht hab _).mono ?_
          rintro e w1 ⟨rfl, hb1⟩
          have HB3 := Lib.hid (below_next hI.out hb1)
          clear hb1
          rw [HV.out]
          go_wp2_with fail
          refine (set_both n a b t hn hab _).mono ?_
          rintro e w' ⟨rfl, nq2, rfl⟩
          rw [HV.out]
          go_wp2_with fail
          refine (get_any s a b hsl hab _).mono ?_
          rintro e w' ⟨rfl, nq3, rfl⟩
          rw [HS1.out]
          go_wp2_with fail
          refine (set_both s a b m hsl hab _).mono ?_
          rintro e w' ⟨rfl, nq4, rfl⟩
          rw [HMB2.out]
          go_wp2
          go_roundw
          case rel => exact ⟨t / 2 ^ (64 - b), k + 1, by omega, by omega, by rw [← HSH.out], by go_num, HB3.out.trans (below_drewN _ _ _)⟩
          case measure => simp [intOf]; omega
        · have HV : Hid (setV n a b t = .tuple #[.int .u64 0, .int .i64 14]) := Lib.hid (by unfold setV; rw [if_neg htb])
          go_wp2_with fail
          refine (docset_any n a b t hn ht hab _).mono ?_
          rintro e w1 ⟨rfl, hb1⟩
          have HB3 := Lib.hid (below_next hI.out hb1)
          clear hb1
          rw [HV.out]
          go_wp2_with fail
          refine (set_both n a b t hn hab _).mono ?_
          rintro e w' ⟨rfl, nq2, rfl⟩
          rw [HV.out]
          go_wp2
          go_roundw
          case rel => exact ⟨t / 2 ^ (64 - b), k + 1, by omega, by omega, by rw [← HSH.out], by go_num, HB3.out.trans (below_drewN _ _ _)⟩
          case measure => simp [intOf]; omega
      · go_wp2
        go_ret
        exact ⟨rfl, hI.out⟩
  · go_enter Try.func6, Try.ntmps6
    go_wp2_with fail
    refine (docget_no n a1 a2 hr hf _).mono ?_
    rintro e w' ⟨rfl, rfl⟩
    go_wp2_with fail
    refine (get_no n a1 a2 hr hf _).mono ?_
    rintro e w' ⟨rfl, rfl⟩
    go_wp2_with fail
    refine (wraps_any _).mono ?_
    rintro e w' ⟨rfl, rfl⟩
    go_wp2_with fail
    rw [HTO.out]
    go_loopw [11, 12] (fun x i wr => x = .int .u64 (T : Int) ∧ i = .int .i64 0 ∧ w = wr) (fun _ i _ => 2 - (intOf i).toNat)
    case atStart => exact ⟨rfl, rfl, rfl⟩
    case round =>
      obtain ⟨rfl, rfl, rfl⟩ := hrel
      go_wp2_with fail
      refine (docset_no n T a1 a2 hr hf _).mono ?_
      rintro e w' ⟨rfl, rfl⟩
      go_wp2_with fail
      refine (set_no n T a1 a2 hr hf _).mono ?_
      rintro e w' ⟨rfl, rfl⟩
      go_wp2
      go_ret
      exact ⟨rfl, Below.refl _ _⟩
end convFields
end Go.Proofs.Ythmllebnhadjkaa
