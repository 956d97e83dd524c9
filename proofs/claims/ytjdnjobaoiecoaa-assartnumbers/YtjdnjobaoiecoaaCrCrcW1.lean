/-
  What the small functions of package crc, and of the document's own sums, answer.
-/
import Derived.Test.YtjdnjobaoiecoaaProg
import Derived.Test.YtjdnjobaoiecoaaCrCrcPure
import Derived.WalkKit
import Derived.WalkSpells
import Derived.WalkLawsBesides
import Derived.BigQuiet
import Derived.Lib.Hide
import Derived.Outline
import Derived.Deep.LoopGhost
import Derived.Deep.QuietTactic
namespace Go.Proofs.Ytjdnjobaoiecoaa.CR
open Go.RowKit

theorem bv_ofInt (r : BitVec 32) : BitVec.ofInt 32 (r.toNat : Int) = r := by
  rw [BitVec.ofInt_natCast, BitVec.ofNat_toNat, BitVec.setWidth_eq]
theorem u32_xor_bv (a b : BitVec 32) : bits .xor .u32 (a.toNat : Int) (b.toNat : Int) = ((a ^^^ b).toNat : Int) := by
  show IntKind.u32.wrap ((BitVec.ofInt 32 (a.toNat : Int) ^^^ BitVec.ofInt 32 (b.toNat : Int)).toNat : Int) = _
  rw [bv_ofInt, bv_ofInt, IntKind.wrap_u32]; have := (a ^^^ b).isLt; omega
theorem u32_and_bv (a b : BitVec 32) : bits .and .u32 (a.toNat : Int) (b.toNat : Int) = ((a &&& b).toNat : Int) := by
  show IntKind.u32.wrap ((BitVec.ofInt 32 (a.toNat : Int) &&& BitVec.ofInt 32 (b.toNat : Int)).toNat : Int) = _
  rw [bv_ofInt, bv_ofInt, IntKind.wrap_u32]; have := (a &&& b).isLt; omega
theorem u32_or_bv (a b : BitVec 32) : bits .or .u32 (a.toNat : Int) (b.toNat : Int) = ((a ||| b).toNat : Int) := by
  show IntKind.u32.wrap ((BitVec.ofInt 32 (a.toNat : Int) ||| BitVec.ofInt 32 (b.toNat : Int)).toNat : Int) = _
  rw [bv_ofInt, bv_ofInt, IntKind.wrap_u32]; have := (a ||| b).isLt; omega

theorem bits_or_comm (x y : Int) : bits .or .u32 x y = bits .or .u32 y x := by
  show IntKind.u32.wrap ((BitVec.ofInt 32 x ||| BitVec.ofInt 32 y).toNat : Int) = IntKind.u32.wrap ((BitVec.ofInt 32 y ||| BitVec.ofInt 32 x).toNat : Int)
  rw [BitVec.or_comm]
theorem ret_int {k : IntKind} {a b : Int} (h : a = b) : Ending.returned (.int k a) = .returned (.int k b) := by rw [h]

theorem half_bv (r : BitVec 32) : (r.toNat : Int) / (2 : Int) = ((r >>> 1).toNat : Int) := by
  rw [BitVec.toNat_ushiftRight, Nat.shiftRight_eq_div_pow]; omega
theorem and1_bv (r : BitVec 32) : bits .and .u32 (r.toNat : Int) 1 = if r.getLsbD 0 then 1 else 0 := by
  have h := u32_and_bv r 1#32
  have e : (((1#32 : BitVec 32).toNat : Nat) : Int) = 1 := rfl
  rw [e] at h; rw [h, BitVec.toNat_and]
  have e2 : r.toNat &&& (1#32 : BitVec 32).toNat = r.toNat % 2 := Nat.and_one_is_mod _
  rw [e2]
  have e3 : r.getLsbD 0 = decide (r.toNat % 2 = 1) := by rw [← BitVec.testBit_toNat, Nat.testBit_zero]
  rw [e3]
  by_cases h : r.toNat % 2 = 1 <;> simp [h]; omega
theorem poly_bv (r : BitVec 32) : bits .xor .u32 ((r.toNat : Int) / 2) 2197175160 = (((r >>> 1) ^^^ Crc.poly).toNat : Int) := by
  rw [half_bv]; exact u32_xor_bv (r >>> 1) Crc.poly

set_option maxRecDepth 100000 in
set_option maxHeartbeats 400000 in
theorem down_any (r : BitVec 32) (w : World) :
    Calls Try.prog 49 #[.int .u32 (r.toNat : Int)] w fun e w' => e = .returned (.int .u32 ((Crc.dn r).toNat : Int)) ∧ w = w' := by
  have hr := r.isLt
  have h1 := and1_bv r
  have hp := Lib.hid (poly_bv r)
  have hh := Lib.hid (half_bv r)
  cases hb : r.getLsbD 0
  · rw [hb] at h1
    have hd : Crc.dn r = r >>> 1 := by unfold Crc.dn; rw [hb]; rfl
    have HD := Lib.hid hd
    have hc : (bits .and .u32 (r.toNat : Int) 1 == 1) = false := by rw [h1]; rfl
    clear h1 hb hd
    go_enter Try.func49, Try.ntmps49
    go_wp2
    go_ret
    exact ⟨ret_int (by rw [HD.out]; exact hh.out), rfl⟩
  · rw [hb] at h1
    have hd : Crc.dn r = (r >>> 1) ^^^ Crc.poly := by unfold Crc.dn; rw [hb]; rfl
    have HD := Lib.hid hd
    have hc : (bits .and .u32 (r.toNat : Int) 1 == 1) = true := by rw [h1]; rfl
    clear h1 hb hd
    go_enter Try.func49, Try.ntmps49
    go_wp2
    go_ret
    exact ⟨ret_int (by rw [HD.out]; exact hp.out), rfl⟩

/-- A mask, and what is masked, by divisions. -/
def maskN (n : Nat) : Nat := (n % 32768 * 131072 + n / 32768 + 2726488792) % 4294967296
def unmaskN (m : Nat) : Nat := (m + 1568478504) % 4294967296 % 131072 * 32768 + (m + 1568478504) % 4294967296 / 131072
theorem maskN_lt (n : Nat) : maskN n < 4294967296 := Nat.mod_lt _ (by omega)
theorem unmaskN_lt (n : Nat) : unmaskN n < 4294967296 := by unfold unmaskN; omega
theorem unmask_mask (n : Nat) (h : n < 4294967296) : unmaskN (maskN n) = n := by
  unfold unmaskN maskN
  have e : ((n % 32768 * 131072 + n / 32768 + 2726488792) % 4294967296 + 1568478504) % 4294967296 = n % 32768 * 131072 + n / 32768 := by omega
  rw [e]
  have e1 : (n % 32768 * 131072 + n / 32768) % 131072 = n / 32768 := by omega
  have e2 : (n % 32768 * 131072 + n / 32768) / 131072 = n % 32768 := by omega
  rw [e1, e2]; omega
set_option maxRecDepth 100000 in
theorem mask_unmask (n : Nat) (h : n < 4294967296) : maskN (unmaskN n) = n := by
  unfold unmaskN maskN
  generalize hm : (n + 1568478504) % 4294967296 = m
  have e1 : (m % 131072 * 32768 + m / 131072) % 32768 = m / 131072 := by omega
  have e2 : (m % 131072 * 32768 + m / 131072) / 32768 = m % 131072 := by omega
  rw [e1, e2]; omega
set_option maxRecDepth 100000 in
theorem or_turn (n k j : Nat) (hk : k + j = 32) (h : n < 4294967296) : bits .or .u32 ((n : Int) / (2 ^ k : Nat)) ((n : Int) * (2 ^ j : Nat) % 4294967296) = ((n % 2 ^ k * 2 ^ j + n / 2 ^ k : Nat) : Int) := by
  have hp : 2 ^ k * 2 ^ j = 4294967296 := by rw [← Nat.pow_add, hk]
  have e1 : n * 2 ^ j % 4294967296 = n % 2 ^ k * 2 ^ j := by rw [← hp, Nat.mul_mod_mul_right]
  have hlt : n / 2 ^ k < 2 ^ j := Nat.div_lt_of_lt_mul (by rw [hp]; exact h)
  have e2 : (n : Int) * (2 ^ j : Nat) % 4294967296 = ((n % 2 ^ k * 2 ^ j : Nat) : Int) := by rw [← e1, Int.natCast_emod, Int.natCast_mul]; rfl
  have e3 : (n : Int) / (2 ^ k : Nat) = ((n / 2 ^ k : Nat) : Int) := (Int.natCast_ediv _ _).symm
  rw [e2, e3]
  have hj : 2 ^ j ≤ 4294967296 := by rw [← hp]; exact Nat.le_mul_of_pos_left _ (Nat.two_pow_pos _)
  have l1 : n / 2 ^ k < 4294967296 := by omega
  have l2 : n % 2 ^ k * 2 ^ j < 4294967296 := by
    rw [← e1]; exact Nat.mod_lt _ (by omega)
  have h2 := u32_or_bv (BitVec.ofNat 32 (n / 2 ^ k)) (BitVec.ofNat 32 (n % 2 ^ k * 2 ^ j))
  rw [BitVec.toNat_or, BitVec.toNat_ofNat, BitVec.toNat_ofNat, Nat.mod_eq_of_lt (by omega), Nat.mod_eq_of_lt (by omega)] at h2
  rw [h2, Nat.or_comm, Nat.mul_comm (n % 2 ^ k), ← Nat.two_pow_add_eq_or_of_lt hlt]

set_option maxRecDepth 100000 in
set_option maxHeartbeats 400000 in
theorem mask_any (n : Nat) (h : n < 4294967296) (w : World) :
    Calls Try.prog 21 #[.int .u32 (n : Int)] w fun e w' => e = .returned (.int .u32 (maskN n : Int)) ∧ w = w' := by
  have h1 := Lib.hid (or_turn n 15 17 rfl h)
  go_enter Try.func21, Try.ntmps21
  go_wp2
  go_ret
  exact ⟨ret_int (by have e := h1.out; rw [show ((2 ^ 15 : Nat) : Int) = 32768 from rfl, show ((2 ^ 17 : Nat) : Int) = 131072 from rfl] at e; rw [e]; unfold maskN; omega), rfl⟩
theorem and1_i64 (k : Nat) (hk : k < 9223372036854775808) : bits .and .i64 (k : Int) 1 = ((k % 2 : Nat) : Int) := by
  show IntKind.i64.wrap ((BitVec.ofInt 64 (k : Int) &&& BitVec.ofInt 64 1).toNat : Int) = _
  have e : BitVec.ofInt 64 (k : Int) &&& BitVec.ofInt 64 1 = BitVec.ofNat 64 (k % 2) := by
    apply BitVec.eq_of_toNat_eq
    rw [BitVec.toNat_and, BitVec.ofInt_natCast, BitVec.toNat_ofNat, BitVec.toNat_ofNat, Nat.mod_eq_of_lt (show k < 2 ^ 64 by omega)]
    rw [show (BitVec.ofInt 64 1).toNat = 1 from rfl, Nat.and_one_is_mod]; omega
  rw [e, BitVec.toNat_ofNat, Nat.mod_eq_of_lt (by omega), IntKind.wrap_i64]; omega
def Crc.shl (b : BitVec 32) (k : Nat) : BitVec 32 := b <<< k
def Crc.R.up (y : BitVec 32) : Int := (y.toNat : Int) * 2 % 4294967296
theorem up_bv (y : BitVec 32) : Crc.R.up y = ((y <<< 1).toNat : Int) := by
  unfold Crc.R.up; rw [BitVec.toNat_shiftLeft, Nat.shiftLeft_eq]; omega
theorem top_bv (y : BitVec 32) : (((y.toNat : Int) / 2147483648) == 1) = y.msb := by
  rw [BitVec.msb_eq_decide]; have := y.isLt
  by_cases h : 2 ^ (32 - 1) ≤ y.toNat
  · rw [decide_eq_true h]; simp; omega
  · rw [decide_eq_false h]; simp; omega
end Go.Proofs.Ytjdnjobaoiecoaa.CR
