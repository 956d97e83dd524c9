/-
  The sums' contracts: down, More, Sum, Mask of crc, and the document's own, in a name space of their own (bytes are BitVecs there).
-/
import Derived.Test.YthpcgdgahlcblaaFrFrBase
namespace Go.Proofs.Ythpcgdgahlcblaa.CR
open Go.RowKit

theorem bv_ofInt (r : BitVec 32) : BitVec.ofInt 32 (r.toNat : Int) = r := by
  rw [BitVec.ofInt_natCast, BitVec.ofNat_toNat, BitVec.setWidth_eq]
theorem u32_xor_bv (a b : BitVec 32) : bits .xor .u32 (a.toNat : Int) (b.toNat : Int) = ((a ^^^ b).toNat : Int) := by
  show IntKind.u32.wrap ((BitVec.ofInt 32 (a.toNat : Int) ^^^ BitVec.ofInt 32 (b.toNat : Int)).toNat : Int) = _
  rw [bv_ofInt, bv_ofInt, IntKind.wrap_u32]; have := (a ^^^ b).isLt; omega
theorem u32_and_bv (a b : BitVec 32) : bits .and .u32 (a.toNat : Int) (b.toNat : Int) = ((a &&& b).toNat : Int) := by
  show IntKind.u32.wrap ((BitVec.ofInt 32 (a.toNat : Int) &&& BitVec.ofInt 32 (b.toNat : Int)).toNat : Int) = _
  rw [bv_ofInt, bv_ofInt, IntKind.wrap_u32]; have := (a &&& b).isLt; omega
theorem u32_or_bv (a b : BitVec 32) : bits .or .u32 (a.toNat : Int) (b.toNat : Int) = ((a ||| b).toNat : Int) := by
  show IntKind.u32.wrap ((BitVec.ofInt 32 (a.toNat : Int) ||| BitVec.ofInt 32 (b.toNat : Int)).toNat : Int) = _
  rw [bv_ofInt, bv_ofInt, IntKind.wrap_u32]; have := (a ||| b).isLt; omega

theorem bits_or_comm (x y : Int) : bits .or .u32 x y = bits .or .u32 y x := by
  show IntKind.u32.wrap ((BitVec.ofInt 32 x ||| BitVec.ofInt 32 y).toNat : Int) = IntKind.u32.wrap ((BitVec.ofInt 32 y ||| BitVec.ofInt 32 x).toNat : Int)
  rw [BitVec.or_comm]

theorem half_bv (r : BitVec 32) : (r.toNat : Int) / (2 : Int) = ((r >>> 1).toNat : Int) := by
  rw [BitVec.toNat_ushiftRight, Nat.shiftRight_eq_div_pow]; omega
theorem and1_bv (r : BitVec 32) : bits .and .u32 (r.toNat : Int) 1 = if r.getLsbD 0 then 1 else 0 := by
  have h := u32_and_bv r 1#32
  have e : (((1#32 : BitVec 32).toNat : Nat) : Int) = 1 := rfl
  rw [e] at h; rw [h, BitVec.toNat_and]
  have e2 : r.toNat &&& (1#32 : BitVec 32).toNat = r.toNat % 2 := Nat.and_one_is_mod _
  rw [e2]
  have e3 : r.getLsbD 0 = decide (r.toNat % 2 = 1) := by rw [← BitVec.testBit_toNat, Nat.testBit_zero]
  rw [e3]
  by_cases h : r.toNat % 2 = 1 <;> simp [h]; omega
theorem poly_bv (r : BitVec 32) : bits .xor .u32 ((r.toNat : Int) / 2) 2197175160 = (((r >>> 1) ^^^ Crc.poly).toNat : Int) := by
  rw [half_bv]; exact u32_xor_bv (r >>> 1) Crc.poly

/-- A mask, and what is masked, by divisions. -/
theorem or_turn (n k j : Nat) (hk : k + j = 32) (h : n < 4294967296) : bits .or .u32 ((n : Int) / (2 ^ k : Nat)) ((n : Int) * (2 ^ j : Nat) % 4294967296) = ((n % 2 ^ k * 2 ^ j + n / 2 ^ k : Nat) : Int) := by
  have hp : 2 ^ k * 2 ^ j = 4294967296 := by rw [← Nat.pow_add, hk]
  have e1 : n * 2 ^ j % 4294967296 = n % 2 ^ k * 2 ^ j := by rw [← hp, Nat.mul_mod_mul_right]
  have hlt : n / 2 ^ k < 2 ^ j := Nat.div_lt_of_lt_mul (by rw [hp]; exact h)
  have e2 : (n : Int) * (2 ^ j : Nat) % 4294967296 = ((n % 2 ^ k * 2 ^ j : Nat) : Int) := by rw [← e1, Int.natCast_emod, Int.natCast_mul]; rfl
  have e3 : (n : Int) / (2 ^ k : Nat) = ((n / 2 ^ k : Nat) : Int) := (Int.natCast_ediv _ _).symm
  rw [e2, e3]
  have hj : 2 ^ j ≤ 4294967296 := by rw [← hp]; exact Nat.le_mul_of_pos_left _ (Nat.two_pow_pos _)
  have l1 : n / 2 ^ k < 4294967296 := by omega
  have l2 : n % 2 ^ k * 2 ^ j < 4294967296 := by
    rw [← e1]; exact Nat.mod_lt _ (by omega)
  have h2 := u32_or_bv (BitVec.ofNat 32 (n / 2 ^ k)) (BitVec.ofNat 32 (n % 2 ^ k * 2 ^ j))
  rw [BitVec.toNat_or, BitVec.toNat_ofNat, BitVec.toNat_ofNat, Nat.mod_eq_of_lt (by omega), Nat.mod_eq_of_lt (by omega)] at h2
  rw [h2, Nat.or_comm, Nat.mul_comm (n % 2 ^ k), ← Nat.two_pow_add_eq_or_of_lt hlt]

/-- Bytes that lie in memory. -/
def Byt (w : World) (a : Option Addr) (l : List (BitVec 8)) : Prop :=
  l = [] ∨ ∃ b off, a = some ⟨b, off, none⟩ ∧ b < w.heap.size ∧ ∀ i (_ : i < l.length), w.cell? ⟨b, off + i, none⟩ = some (.int .u8 ((l[i]).toNat : Int))

theorem byte32 (r : BitVec 32) (c : BitVec 8) : bits .xor .u32 (r.toNat : Int) (c.toNat : Int) = ((r ^^^ c.setWidth 32).toNat : Int) := by
  have h := u32_xor_bv r (c.setWidth 32)
  have e : (c.setWidth 32).toNat = c.toNat := by rw [BitVec.toNat_setWidth]; have := c.isLt; omega
  rw [e] at h; exact h

def Crc.inv (s : BitVec 32) : BitVec 32 := s ^^^ Crc.ff
theorem not_bv (s : BitVec 32) : bits .xor .u32 IntKind.u32.max (s.toNat : Int) = ((Crc.inv s).toNat : Int) := by
  have h := u32_xor_bv Crc.ff s
  rw [BitVec.xor_comm] at h; exact h
def Crc.plus (r : BitVec 32) (c : BitVec 8) : BitVec 32 := r ^^^ c.setWidth 32
theorem plus_bv (r : BitVec 32) (c : BitVec 8) : bits .xor .u32 (r.toNat : Int) (c.toNat : Int) = ((Crc.plus r c).toNat : Int) := byte32 r c
theorem Byt.at {w : World} {a : Option Addr} {l : List (BitVec 8)} (h : Byt w a l) {k : Nat} (hk : k < l.length) : ∃ b off, a = some ⟨b, off, none⟩ ∧ w.cell? ⟨b, off + k, none⟩ = some (.int .u8 ((l[k]).toNat : Int)) := by
  rcases h with h | ⟨b, off, rfl, _, hc⟩
  · subst h; simp at hk
  · exact ⟨b, off, rfl, hc k hk⟩
theorem over_take (r : BitVec 32) (l : List (BitVec 8)) (k : Nat) (hk : k < l.length) : Crc.over r (l.take (k + 1)) = Crc.dnN 8 (Crc.plus (Crc.over r (l.take k)) l[k]) := by
  rw [List.take_succ_eq_append_getElem hk, Crc.over_snoc]; rfl

theorem dn_bit (r : BitVec 32) (b : Bool) : (r ^^^ Crc.bit1 b) >>> 1 = r >>> 1 := by
  rw [BitVec.ushiftRight_xor_distrib]
  have : Crc.bit1 b >>> 1 = 0#32 := by cases b <;> decide
  rw [this, BitVec.xor_zero]
def Crc.xb (r : BitVec 32) (b : Bool) : BitVec 32 := r ^^^ Crc.bit1 b
theorem bit_of (c : BitVec 8) (x n : Nat) (hc : c.toNat = x) : bits .and .u32 ((x : Int) % 4294967296 / 2 ^ n) 1 = ((Crc.bit1 (c.getLsbD n)).toNat : Int) := by
  subst hc
  have hb := c.isLt
  have e1 : (c.toNat : Int) % 4294967296 / 2 ^ n = ((c.toNat / 2 ^ n : Nat) : Int) := by
    rw [Int.emod_eq_of_lt (by omega) (by omega)]; push_cast; rfl
  have hd : c.toNat / 2 ^ n ≤ c.toNat := Nat.div_le_self _ _
  have h := and1_bv (BitVec.ofNat 32 (c.toNat / 2 ^ n))
  rw [← BitVec.testBit_toNat, BitVec.toNat_ofNat, Nat.mod_eq_of_lt (by omega), Nat.testBit_zero] at h
  rw [e1, h, ← BitVec.testBit_toNat, Nat.testBit_eq_decide_div_mod_eq]
  by_cases e : c.toNat / 2 ^ n % 2 = 1
  · simp [e, Crc.bit1]
  · simp [e, Crc.bit1]
theorem byte_in (c : BitVec 8) (r : BitVec 32) : Crc.stN (fun p => c.getLsbD p) r 8 = Crc.dnN 8 (Crc.plus r c) := by
  have := Crc.stN_low (fun p => c.getLsbD p) r (c.setWidth 32) 0 8 (by omega) (fun i hi => by rw [BitVec.getLsbD_setWidth]; simp; omega)
  rw [Crc.byte_low] at this
  exact this
/-- A text's bytes. -/
def bytesOf (s : ByteArray) : List (BitVec 8) := s.data.toList.map fun c => BitVec.ofNat 8 c.toNat
theorem bytesOf_length (s : ByteArray) : (bytesOf s).length = s.size := by simp [bytesOf]
end Go.Proofs.Ythpcgdgahlcblaa.CR
