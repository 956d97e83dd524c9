/-
  What the document's own Clamp answers, and all of them of a kind that there isn't; the laws ConvMoves and ConvRounds, walked.
-/
import Derived.Test.YthmllebnhadjkaaConvR4
namespace Go.Proofs.Ythmllebnhadjkaa
open Go.RowKit

set_option maxRecDepth 100000 in
set_option maxHeartbeats 400000 in
theorem docswap_no (kind : Int) (hk : kind < 0 ∨ 7 < kind) (n : Int) (w : World) :
    Calls Try.prog 15 #[.int .i64 kind, .int .i64 n] w fun e w' => e = .returned (.tuple #[.int .i64 0, .int .i64 1]) ∧ w = w' := by
  go_enter Try.func15, Try.ntmps15
  go_wp2_with fail
  refine (width_no kind hk _).mono ?_
  rintro e w' ⟨rfl, rfl⟩
  go_wp2
  go_ret2
  exact ⟨rfl, rfl⟩
set_option maxRecDepth 100000 in
set_option maxHeartbeats 400000 in
theorem docclamp_no (kind : Int) (hk : kind < 0 ∨ 7 < kind) (n : Int) (w : World) :
    Calls Try.prog 13 #[.int .i64 kind, .int .i64 n] w fun e w' => e = .returned (.tuple #[.int .i64 0, .int .i64 1]) ∧ w = w' := by
  go_enter Try.func13, Try.ntmps13
  go_wp2_with fail
  refine (width_no kind hk _).mono ?_
  rintro e w' ⟨rfl, rfl⟩
  go_wp2
  go_ret2
  exact ⟨rfl, rfl⟩
set_option maxRecDepth 100000 in
set_option maxHeartbeats 400000 in
theorem docturn_no (kind : Int) (hk : kind < 0 ∨ 7 < kind) (n m : Int) (w : World) :
    Calls Try.prog 24 #[.int .i64 kind, .int .i64 n, .int .i64 m] w fun e w' => e = .returned (.tuple #[.int .i64 0, .int .i64 1]) ∧ w = w' := by
  go_enter Try.func24, Try.ntmps24
  go_wp2_with fail
  refine (width_no kind hk _).mono ?_
  rintro e w' ⟨rfl, rfl⟩
  go_wp2
  go_ret2
  exact ⟨rfl, rfl⟩

/-- Memory grows on. -/
theorem below_next {w w1 w2 : World} (h : Below w.heap.size w w1) (k : Below w1.heap.size w1 w2) : Below w.heap.size w w2 := h.trans (k.mono h.size)

namespace convMoves
set_option maxRecDepth 100000 in
set_option maxHeartbeats 800000 in
theorem walk (a0 a1 a2 : Int) (_w0 : (Lit.int .i64 a0).wf = true) (_w1 : (Lit.int .i64 a1).wf = true) (w2 : (Lit.int .i64 a2).wf = true) (w : World) :
    Calls Try.prog 4 #[.int .i64 a0, .int .i64 a1, .int .i64 a2] w fun e w' => e = .returned (.bool true) ∧ Below w.heap.size w w' := by
  have hr := wf_i64 w2
  clear w2
  by_cases hg : (0 ≤ a0 ∧ a0 ≤ 7) ∧ 0 ≤ a2
  · obtain ⟨hk, h2⟩ := hg
    obtain ⟨m, rfl⟩ := Int.eq_ofNat_of_zero_le h2
    have hm : m < 9223372036854775808 := by omega
    go_enter Try.func4, Try.ntmps4
    go_wp2_with fail
    refine (docleft_any a0 hk a1 m hm _).mono ?_
    rintro e wa ⟨rfl, hb1⟩
    have HB1 := Lib.hid hb1
    clear hb1
    go_wp2_with fail
    refine (left_any a0 hk a1 m _).mono ?_
    rintro e w' ⟨rfl, rfl⟩
    go_wp2_with fail
    refine (docright_any a0 hk a1 m hm _).mono ?_
    rintro e wb ⟨rfl, hb2⟩
    have HB2 := Lib.hid (below_next HB1.out hb2)
    clear hb2
    go_wp2_with fail
    refine (right_any a0 hk a1 m _).mono ?_
    rintro e w' ⟨rfl, rfl⟩
    go_wp2_with fail
    refine (wraps_any _).mono ?_
    rintro e w' ⟨rfl, rfl⟩
    go_wp2
    go_ret
    exact ⟨rfl, HB2.out⟩
  · have hn : (a0 < 0 ∨ 7 < a0) ∨ a2 < 0 := by omega
    clear hg
    go_enter Try.func4, Try.ntmps4
    go_wp2_with fail
    refine (docleft_no a0 a1 a2 hn _).mono ?_
    rintro e wa ⟨rfl, hb1⟩
    have HB1 := Lib.hid hb1
    clear hb1
    go_wp2_with fail
    refine (left_no a0 a1 a2 hn _).mono ?_
    rintro e w' ⟨rfl, rfl⟩
    go_wp2_with fail
    refine (docright_no a0 a1 a2 hn _).mono ?_
    rintro e wb ⟨rfl, hb2⟩
    have HB2 := Lib.hid (below_next HB1.out hb2)
    clear hb2
    go_wp2_with fail
    refine (right_no a0 a1 a2 hn _).mono ?_
    rintro e w' ⟨rfl, rfl⟩
    go_wp2_with fail
    refine (wraps_any _).mono ?_
    rintro e w' ⟨rfl, rfl⟩
    go_wp2
    go_ret
    exact ⟨rfl, HB2.out⟩
end convMoves

theorem pow_le_31 (k : Nat) (hk : k ≤ 32) : (2 : Int) ^ k ≤ 4294967296 := by
  have h : (2 : Nat) ^ k ≤ 2 ^ 32 := Nat.pow_le_pow_right (by omega) hk
  have e : (2 : Int) ^ k = ((2 ^ k : Nat) : Int) := by simp
  rw [e]; omega
def powI (k : Nat) : Int := 2 ^ k
theorem powI_succ (k : Nat) : 2 * powI k = powI (k + 1) := by unfold powI; rw [Int.pow_succ, Int.mul_comm]
theorem powI_le (k : Nat) (hk : k ≤ 32) : powI k ≤ 4294967296 := pow_le_31 k hk
theorem powI_pos (k : Nat) : 1 ≤ powI k := by unfold powI; have := Int.pow_pos (n := 2) (m := k) (by omega); omega
set_option maxRecDepth 100000 in
set_option maxHeartbeats 800000 in
theorem docclamp_any (kind : Int) (hk : 0 ≤ kind ∧ kind ≤ 7) (n : Int) (hn : -9223372036854775808 ≤ n ∧ n ≤ 9223372036854775807) (w : World) :
    Calls Try.prog 13 #[.int .i64 kind, .int .i64 n] w fun e w' => e = .returned (.tuple #[.int .i64 (clampI kind n), .int .i64 0]) ∧ Below w.heap.size w w' := by
  have hwid : 8 ≤ widN kind ∧ widN kind ≤ 64 := by rcases wid_le kind with h | h | h | h <;> omega
  have h0 : ((widN kind : Int) == 0) = false := by rw [beq_eq_false_iff_ne]; omega
  by_cases h7 : kind = 7
  · subst h7
    have HC : Hid (clampI 7 n = if n < 0 then 0 else n) := Lib.hid (by simp only [clampI, loI, hiI]; simp; omega)
    by_cases hneg : n < 0
    · go_enter Try.func13, Try.ntmps13
      go_wp2_with fail
      refine (width_any 7 hk _).mono ?_
      rintro e w1 ⟨rfl, hb1⟩
      have HB1 := Lib.hid hb1
      clear hb1
      go_wp2
      go_ret2
      exact ⟨ret_two (by rw [HC.out, if_pos hneg]) rfl, HB1.out⟩
    · go_enter Try.func13, Try.ntmps13
      go_wp2_with fail
      refine (width_any 7 hk _).mono ?_
      rintro e w1 ⟨rfl, hb1⟩
      have HB1 := Lib.hid hb1
      clear hb1
      go_wp2
      go_ret2
      exact ⟨ret_two (by rw [HC.out, if_neg (by omega)]) rfl, HB1.out⟩
  · have h7b : (kind == 7) = false := by simpa using h7
    by_cases h3 : kind = 3
    · subst h3
      have HC : Hid (clampI 3 n = n) := Lib.hid (by simp only [clampI, loI, hiI]; simp; omega)
      go_enter Try.func13, Try.ntmps13
      go_wp2_with fail
      refine (width_any 3 hk _).mono ?_
      rintro e w1 ⟨rfl, hb1⟩
      have HB1 := Lib.hid hb1
      clear hb1
      go_wp2
      go_ret2
      exact ⟨ret_two HC.out.symm rfl, HB1.out⟩
    · have h3b : (kind == 3) = false := by simpa using h3
      have hw32 : widN kind ≤ 32 := by unfold widN; split <;> (try split) <;> (try split) <;> omega
      by_cases h4 : kind < 4
      · have HLO : Hid (loI kind = -powI (widN kind - 1) ∧ hiI kind = powI (widN kind - 1) - 1) := Lib.hid (by
          rcases kinds hk with rfl | rfl | rfl | rfl | rfl | rfl | rfl | rfl <;> first | (exfalso; omega) | decide)
        go_enter Try.func13, Try.ntmps13
        go_wp2_with fail
        refine (width_any kind hk _).mono ?_
        rintro e w1 ⟨rfl, hb1⟩
        have HB1 := Lib.hid hb1
        clear hb1
        go_wp2
        go_loop [7, 8] (fun x i => ∃ k : Nat, 1 ≤ k ∧ k ≤ widN kind ∧ x = .int .i64 (powI (k - 1)) ∧ i = .int .i64 (k : Int)) (fun _ i => widN kind - (intOf i).toNat)
        case atStart => exact ⟨1, by omega, by omega, rfl, rfl⟩
        case round =>
          obtain ⟨k, hk1, hk2, rfl, rfl⟩ := hrel
          have p1 := powI_le (k - 1) (by omega)
          have p2 := powI_pos (k - 1)
          by_cases hlt : k < widN kind
          · have HP : Hid (2 * powI (k - 1) = powI (k + 1 - 1)) := Lib.hid (by rw [powI_succ]; congr 1; omega)
            go_wp2
            go_round
            case rel => exact ⟨k + 1, by omega, by omega, by rw [HP.out], by go_num⟩
            case measure => simp [intOf]; omega
          · obtain rfl : k = widN kind := by omega
            generalize powI (widN kind - 1) = F at *
            by_cases c1 : n < loI kind
            · have HK : Hid (clampI kind n = loI kind) := Lib.hid (by unfold clampI; rw [if_pos c1])
              rw [HLO.out.1] at c1 HK
              go_wp2
              go_ret2
              exact ⟨ret_two HK.out.symm rfl, HB1.out⟩
            · by_cases c2 : hiI kind < n
              · have HK : Hid (clampI kind n = hiI kind) := Lib.hid (by unfold clampI; rw [if_neg c1, if_pos c2])
                rw [HLO.out.1] at c1
                rw [HLO.out.2] at c2 HK
                go_wp2
                go_ret2
                exact ⟨ret_two HK.out.symm rfl, HB1.out⟩
              · have HK : Hid (clampI kind n = n) := Lib.hid (by unfold clampI; rw [if_neg c1, if_neg c2])
                rw [HLO.out.1] at c1
                rw [HLO.out.2] at c2
                go_wp2
                go_ret2
                exact ⟨ret_two HK.out.symm rfl, HB1.out⟩
      · have HLO : Hid (loI kind = 0 ∧ hiI kind = powI (widN kind) - 1) := Lib.hid (by
          rcases kinds hk with rfl | rfl | rfl | rfl | rfl | rfl | rfl | rfl <;> first | (exfalso; omega) | decide)
        go_enter Try.func13, Try.ntmps13
        go_wp2_with fail
        refine (width_any kind hk _).mono ?_
        rintro e w1 ⟨rfl, hb1⟩
        have HB1 := Lib.hid hb1
        clear hb1
        go_wp2
        go_loop [9, 10] (fun x i => ∃ k : Nat, k ≤ widN kind ∧ x = .int .i64 (powI k) ∧ i = .int .i64 (k : Int)) (fun _ i => widN kind - (intOf i).toNat)
        case atStart => exact ⟨0, by omega, rfl, rfl⟩
        case round =>
          obtain ⟨k, hk2, rfl, rfl⟩ := hrel
          have p1 := powI_le k (by omega)
          have p2 := powI_pos k
          by_cases hlt : k < widN kind
          · have HP := Lib.hid (powI_succ k)
            go_wp2
            go_round
            case rel => exact ⟨k + 1, by omega, by rw [HP.out], by go_num⟩
            case measure => simp [intOf]; omega
          · obtain rfl : k = widN kind := by omega
            generalize powI (widN kind) = F at *
            by_cases c1 : n < loI kind
            · have HK : Hid (clampI kind n = loI kind) := Lib.hid (by unfold clampI; rw [if_pos c1])
              rw [HLO.out.1] at c1 HK
              go_wp2
              go_ret2
              exact ⟨ret_two HK.out.symm rfl, HB1.out⟩
            · by_cases c2 : hiI kind < n
              · have HK : Hid (clampI kind n = hiI kind) := Lib.hid (by unfold clampI; rw [if_neg c1, if_pos c2])
                rw [HLO.out.1] at c1
                rw [HLO.out.2] at c2 HK
                go_wp2
                go_ret2
                exact ⟨ret_two HK.out.symm rfl, HB1.out⟩
              · have HK : Hid (clampI kind n = n) := Lib.hid (by unfold clampI; rw [if_neg c1, if_neg c2])
                rw [HLO.out.1] at c1
                rw [HLO.out.2] at c2
                go_wp2
                go_ret2
                exact ⟨ret_two HK.out.symm rfl, HB1.out⟩
end Go.Proofs.Ythmllebnhadjkaa
