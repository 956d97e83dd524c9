/-
  The sums' contracts: down, More, Sum, Mask of crc, and the document's own, in a name space of their own (bytes are BitVecs there).
-/
import Derived.Test.YtadnecgcoceklaaGreatDoorFrFrBase
namespace Go.Proofs.YtadnecgcoceklaaGreatDoor.FR.CR
open Go.RowKit

theorem bv_ofInt (r : BitVec 32) : BitVec.ofInt 32 (r.toNat : Int) = r := by
  rw [BitVec.ofInt_natCast, BitVec.ofNat_toNat, BitVec.setWidth_eq]
theorem u32_xor_bv (a b : BitVec 32) : bits .xor .u32 (a.toNat : Int) (b.toNat : Int) = ((a ^^^ b).toNat : Int) := by
  show IntKind.u32.wrap ((BitVec.ofInt 32 (a.toNat : Int) ^^^ BitVec.ofInt 32 (b.toNat : Int)).toNat : Int) = _
  rw [bv_ofInt, bv_ofInt, IntKind.wrap_u32]; have := (a ^^^ b).isLt; omega
theorem u32_and_bv (a b : BitVec 32) : bits .and .u32 (a.toNat : Int) (b.toNat : Int) = ((a &&& b).toNat : Int) := by
  show IntKind.u32.wrap ((BitVec.ofInt 32 (a.toNat : Int) &&& BitVec.ofInt 32 (b.toNat : Int)).toNat : Int) = _
  rw [bv_ofInt, bv_ofInt, IntKind.wrap_u32]; have := (a &&& b).isLt; omega
theorem u32_or_bv (a b : BitVec 32) : bits .or .u32 (a.toNat : Int) (b.toNat : Int) = ((a ||| b).toNat : Int) := by
  show IntKind.u32.wrap ((BitVec.ofInt 32 (a.toNat : Int) ||| BitVec.ofInt 32 (b.toNat : Int)).toNat : Int) = _
  rw [bv_ofInt, bv_ofInt, IntKind.wrap_u32]; have := (a ||| b).isLt; omega

theorem bits_or_comm (x y : Int) : bits .or .u32 x y = bits .or .u32 y x := by
  show IntKind.u32.wrap ((BitVec.ofInt 32 x ||| BitVec.ofInt 32 y).toNat : Int) = IntKind.u32.wrap ((BitVec.ofInt 32 y ||| BitVec.ofInt 32 x).toNat : Int)
  rw [BitVec.or_comm]

theorem half_bv (r : BitVec 32) : (r.toNat : Int) / (2 : Int) = ((r >>> 1).toNat : Int) := by
  rw [BitVec.toNat_ushiftRight, Nat.shiftRight_eq_div_pow]; omega
theorem and1_bv (r : BitVec 32) : bits .and .u32 (r.toNat : Int) 1 = if r.getLsbD 0 then 1 else 0 := by
  have h := u32_and_bv r 1#32
  have e : (((1#32 : BitVec 32).toNat : Nat) : Int) = 1 := rfl
  rw [e] at h; rw [h, BitVec.toNat_and]
  have e2 : r.toNat &&& (1#32 : BitVec 32).toNat = r.toNat % 2 := Nat.and_one_is_mod _
  rw [e2]
  have e3 : r.getLsbD 0 = decide (r.toNat % 2 = 1) := by rw [← BitVec.testBit_toNat, Nat.testBit_zero]
  rw [e3]
  by_cases h : r.toNat % 2 = 1 <;> simp [h]; omega
theorem poly_bv (r : BitVec 32) : bits .xor .u32 ((r.toNat : Int) / 2) 2197175160 = (((r >>> 1) ^^^ Crc.poly).toNat : Int) := by
  rw [half_bv]; exact u32_xor_bv (r >>> 1) Crc.poly

set_option maxRecDepth 100000 in
set_option maxHeartbeats 400000 in
theorem down_any (r : BitVec 32) (w : World) :
    Calls Tryz.prog 131 #[.int .u32 (r.toNat : Int)] w fun e w' => e = .returned (.int .u32 ((Crc.dn r).toNat : Int)) ∧ w = w' := by
  have hr := r.isLt
  have h1 := and1_bv r
  have hp := Lib.hid (poly_bv r)
  have hh := Lib.hid (half_bv r)
  cases hb : r.getLsbD 0
  · rw [hb] at h1
    have hd : Crc.dn r = r >>> 1 := by unfold Crc.dn; rw [hb]; rfl
    have HD := Lib.hid hd
    have hc : (bits .and .u32 (r.toNat : Int) 1 == 1) = false := by rw [h1]; rfl
    clear h1 hb hd
    go_enter Tryz.func131, Tryz.ntmps131
    go_wp2
    go_ret
    exact ⟨ret_int (by rw [HD.out]; exact hh.out), rfl⟩
  · rw [hb] at h1
    have hd : Crc.dn r = (r >>> 1) ^^^ Crc.poly := by unfold Crc.dn; rw [hb]; rfl
    have HD := Lib.hid hd
    have hc : (bits .and .u32 (r.toNat : Int) 1 == 1) = true := by rw [h1]; rfl
    clear h1 hb hd
    go_enter Tryz.func131, Tryz.ntmps131
    go_wp2
    go_ret
    exact ⟨ret_int (by rw [HD.out]; exact hp.out), rfl⟩

/-- A mask, and what is masked, by divisions. -/
theorem or_turn (n k j : Nat) (hk : k + j = 32) (h : n < 4294967296) : bits .or .u32 ((n : Int) / (2 ^ k : Nat)) ((n : Int) * (2 ^ j : Nat) % 4294967296) = ((n % 2 ^ k * 2 ^ j + n / 2 ^ k : Nat) : Int) := by
  have hp : 2 ^ k * 2 ^ j = 4294967296 := by rw [← Nat.pow_add, hk]
  have e1 : n * 2 ^ j % 4294967296 = n % 2 ^ k * 2 ^ j := by rw [← hp, Nat.mul_mod_mul_right]
  have hlt : n / 2 ^ k < 2 ^ j := Nat.div_lt_of_lt_mul (by rw [hp]; exact h)
  have e2 : (n : Int) * (2 ^ j : Nat) % 4294967296 = ((n % 2 ^ k * 2 ^ j : Nat) : Int) := by rw [← e1, Int.natCast_emod, Int.natCast_mul]; rfl
  have e3 : (n : Int) / (2 ^ k : Nat) = ((n / 2 ^ k : Nat) : Int) := (Int.natCast_ediv _ _).symm
  rw [e2, e3]
  have hj : 2 ^ j ≤ 4294967296 := by rw [← hp]; exact Nat.le_mul_of_pos_left _ (Nat.two_pow_pos _)
  have l1 : n / 2 ^ k < 4294967296 := by omega
  have l2 : n % 2 ^ k * 2 ^ j < 4294967296 := by
    rw [← e1]; exact Nat.mod_lt _ (by omega)
  have h2 := u32_or_bv (BitVec.ofNat 32 (n / 2 ^ k)) (BitVec.ofNat 32 (n % 2 ^ k * 2 ^ j))
  rw [BitVec.toNat_or, BitVec.toNat_ofNat, BitVec.toNat_ofNat, Nat.mod_eq_of_lt (by omega), Nat.mod_eq_of_lt (by omega)] at h2
  rw [h2, Nat.or_comm, Nat.mul_comm (n % 2 ^ k), ← Nat.two_pow_add_eq_or_of_lt hlt]

set_option maxRecDepth 100000 in
set_option maxHeartbeats 400000 in
theorem mask_any (n : Nat) (h : n < 4294967296) (w : World) :
    Calls Tryz.prog 114 #[.int .u32 (n : Int)] w fun e w' => e = .returned (.int .u32 (maskN n : Int)) ∧ w = w' := by
  have h1 := Lib.hid (or_turn n 15 17 rfl h)
  go_enter Tryz.func114, Tryz.ntmps114
  go_wp2
  go_ret
  exact ⟨ret_int (by have e := h1.out; rw [show ((2 ^ 15 : Nat) : Int) = 32768 from rfl, show ((2 ^ 17 : Nat) : Int) = 131072 from rfl] at e; rw [e]; unfold maskN; omega), rfl⟩
set_option maxRecDepth 100000 in
set_option maxHeartbeats 400000 in
theorem rmask_any (n : Nat) (_h : n < 4294967296) (w : World) :
    Calls Tryz.prog 104 #[.int .u32 (n : Int)] w fun e w' => e = .returned (.int .u32 (maskN n : Int)) ∧ w = w' := by
  go_enter Tryz.func104, Tryz.ntmps104
  go_wp2
  go_ret
  exact ⟨ret_int (by unfold maskN; omega), rfl⟩
/-- Bytes that lie in memory. -/
def Byt (w : World) (a : Option Addr) (l : List (BitVec 8)) : Prop :=
  l = [] ∨ ∃ b off, a = some ⟨b, off, none⟩ ∧ b < w.heap.size ∧ ∀ i (_ : i < l.length), w.cell? ⟨b, off + i, none⟩ = some (.int .u8 ((l[i]).toNat : Int))

theorem byte32 (r : BitVec 32) (c : BitVec 8) : bits .xor .u32 (r.toNat : Int) (c.toNat : Int) = ((r ^^^ c.setWidth 32).toNat : Int) := by
  have h := u32_xor_bv r (c.setWidth 32)
  have e : (c.setWidth 32).toNat = c.toNat := by rw [BitVec.toNat_setWidth]; have := c.isLt; omega
  rw [e] at h; exact h

def Crc.inv (s : BitVec 32) : BitVec 32 := s ^^^ Crc.ff
theorem not_bv (s : BitVec 32) : bits .xor .u32 IntKind.u32.max (s.toNat : Int) = ((Crc.inv s).toNat : Int) := by
  have h := u32_xor_bv Crc.ff s
  rw [BitVec.xor_comm] at h; exact h
def Crc.plus (r : BitVec 32) (c : BitVec 8) : BitVec 32 := r ^^^ c.setWidth 32
theorem plus_bv (r : BitVec 32) (c : BitVec 8) : bits .xor .u32 (r.toNat : Int) (c.toNat : Int) = ((Crc.plus r c).toNat : Int) := byte32 r c
theorem Byt.at {w : World} {a : Option Addr} {l : List (BitVec 8)} (h : Byt w a l) {k : Nat} (hk : k < l.length) : ∃ b off, a = some ⟨b, off, none⟩ ∧ w.cell? ⟨b, off + k, none⟩ = some (.int .u8 ((l[k]).toNat : Int)) := by
  rcases h with h | ⟨b, off, rfl, _, hc⟩
  · subst h; simp at hk
  · exact ⟨b, off, rfl, hc k hk⟩
theorem over_take (r : BitVec 32) (l : List (BitVec 8)) (k : Nat) (hk : k < l.length) : Crc.over r (l.take (k + 1)) = Crc.dnN 8 (Crc.plus (Crc.over r (l.take k)) l[k]) := by
  rw [List.take_succ_eq_append_getElem hk, Crc.over_snoc]; rfl

set_option maxRecDepth 100000 in
set_option maxHeartbeats 400000 in
theorem more_any (s : BitVec 32) (w : World) (a : Option Addr) (cap : Nat) (l : List (BitVec 8)) (hl : Byt w a l) (hm : l.length ≤ maxLen) :
    Calls Tryz.prog 115 #[.int .u32 (s.toNat : Int), .slice a l.length cap] w fun e w' => e = .returned (.int .u32 ((Crc.more s l).toNat : Int)) ∧ w = w' := by
  unfold maxLen at hm
  have hs := s.isLt
  have HL := Lib.hid hl
  have HN := Lib.hid (not_bv s)
  clear hl
  go_enter Tryz.func115, Tryz.ntmps115
  go_wp2
  go_loop [5, 7, 12, 20] (fun r _ i _ => ∃ k : Nat, k ≤ l.length ∧ r = .int .u32 ((Crc.over (Crc.inv s) (l.take k)).toNat : Int) ∧ i = .int .i64 (k : Int)) (fun _ _ i _ => l.length - (intOf i).toNat)
  case atStart => exact ⟨0, by omega, by rw [HN.out]; rfl, rfl⟩
  case round =>
    obtain ⟨k, hk, rfl, rfl⟩ := hrel
    by_cases hlt : k < l.length
    · obtain ⟨b, off, rfl, hc⟩ := HL.out.at hlt
      have HO := Lib.hid (over_take (Crc.inv s) l k hlt)
      have HP := Lib.hid (plus_bv (Crc.over (Crc.inv s) (l.take k)) l[k])
      have hb := (l[k]).isLt
      generalize l[k] = c at *
      generalize hr0 : Crc.over (Crc.inv s) (l.take k) = r0 at *
      have HR := Lib.hid hr0
      clear hr0
      go_wp2
      go_loop [5, 20] (fun r j => ∃ n : Nat, n ≤ 8 ∧ r = .int .u32 ((Crc.dnN n (Crc.plus r0 c)).toNat : Int) ∧ j = .int .i64 (n : Int)) (fun _ j => 8 - (intOf j).toNat)
      case atStart => exact ⟨0, by omega, by rw [HP.out]; rfl, rfl⟩
      case round =>
        obtain ⟨n, hn, rfl, rfl⟩ := hrel
        by_cases h8 : n < 8
        · go_wp2_with (go_at_call 131; refine (down_any _ _).mono ?_; rintro e w' ⟨rfl, rfl⟩)
          go_round
          case rel => exact ⟨n + 1, by omega, rfl, by go_num⟩
          case measure => simp [intOf]; omega
        · obtain rfl : n = 8 := by omega
          go_wp2
          go_round
          case rel => exact ⟨k + 1, by omega, by rw [HO.out], by go_num⟩
          case measure => simp [intOf]; omega
    · have HN2 := Lib.hid (not_bv (Crc.over (Crc.inv s) (l.take k)))
      go_wp2
      go_ret
      exact ⟨ret_int (by rw [HN2.out, List.take_of_length_le (by omega)]; rfl), rfl⟩

set_option maxRecDepth 100000 in
set_option maxHeartbeats 400000 in
theorem sum_any (w : World) (a : Option Addr) (cap : Nat) (l : List (BitVec 8)) (hl : Byt w a l) (hm : l.length ≤ maxLen) :
    Calls Tryz.prog 116 #[.slice a l.length cap] w fun e w' => e = .returned (.int .u32 ((Crc.sum l).toNat : Int)) ∧ w = w' := by
  have HL := Lib.hid hl
  clear hl
  go_enter Tryz.func116, Tryz.ntmps116
  go_wp2_with (go_at_call 115; refine (more_any 0#32 _ _ _ _ HL.out hm).mono ?_; rintro e w' ⟨rfl, rfl⟩)
  go_ret
  exact ⟨rfl, rfl⟩

theorem dn_bit (r : BitVec 32) (b : Bool) : (r ^^^ Crc.bit1 b) >>> 1 = r >>> 1 := by
  rw [BitVec.ushiftRight_xor_distrib]
  have : Crc.bit1 b >>> 1 = 0#32 := by cases b <;> decide
  rw [this, BitVec.xor_zero]
def Crc.xb (r : BitVec 32) (b : Bool) : BitVec 32 := r ^^^ Crc.bit1 b
set_option maxRecDepth 100000 in
set_option maxHeartbeats 400000 in
theorem step_any (r : BitVec 32) (b : Bool) (w : World) :
    Calls Tryz.prog 132 #[.int .u32 (r.toNat : Int), .int .u32 ((Crc.bit1 b).toNat : Int)] w fun e w' => e = .returned (.int .u32 ((Crc.dn (Crc.xb r b)).toNat : Int)) ∧ w = w' := by
  have hr := r.isLt
  have hx : bits .xor .u32 (r.toNat : Int) ((Crc.bit1 b).toNat : Int) = ((Crc.xb r b).toNat : Int) := u32_xor_bv r (Crc.bit1 b)
  have ht : ((bits .xor .u32 (r.toNat : Int) ((Crc.bit1 b).toNat : Int)).tmod 2 == 1) = (Crc.xb r b).getLsbD 0 := by
    rw [hx, ← BitVec.testBit_toNat, Nat.testBit_zero, Int.tmod_eq_emod_of_nonneg (by omega)]
    by_cases e : (Crc.xb r b).toNat % 2 = 1
    · rw [decide_eq_true e]; simp; omega
    · rw [decide_eq_false e]; simp; omega
  have hp := Lib.hid (poly_bv r)
  have hh := Lib.hid (half_bv r)
  have hdb := Lib.hid (dn_bit r b)
  clear hx
  cases hb : (Crc.xb r b).getLsbD 0
  · rw [hb] at ht
    have HD : Hid (Crc.dn (Crc.xb r b) = r >>> 1) := Lib.hid (by unfold Crc.dn; rw [hb]; exact hdb.out)
    clear hb
    go_enter Tryz.func132, Tryz.ntmps132
    go_wp2
    go_ret
    exact ⟨ret_int (by rw [HD.out]; exact hh.out), rfl⟩
  · rw [hb] at ht
    have HD : Hid (Crc.dn (Crc.xb r b) = (r >>> 1) ^^^ Crc.poly) := Lib.hid (by unfold Crc.dn; rw [hb]; show (Crc.xb r b) >>> 1 ^^^ Crc.poly = _; unfold Crc.xb; rw [hdb.out])
    clear hb
    go_enter Tryz.func132, Tryz.ntmps132
    go_wp2
    go_ret
    exact ⟨ret_int (by rw [HD.out]; exact hp.out), rfl⟩

theorem bit_of (c : BitVec 8) (x n : Nat) (hc : c.toNat = x) : bits .and .u32 ((x : Int) % 4294967296 / 2 ^ n) 1 = ((Crc.bit1 (c.getLsbD n)).toNat : Int) := by
  subst hc
  have hb := c.isLt
  have e1 : (c.toNat : Int) % 4294967296 / 2 ^ n = ((c.toNat / 2 ^ n : Nat) : Int) := by
    rw [Int.emod_eq_of_lt (by omega) (by omega)]; push_cast; rfl
  have hd : c.toNat / 2 ^ n ≤ c.toNat := Nat.div_le_self _ _
  have h := and1_bv (BitVec.ofNat 32 (c.toNat / 2 ^ n))
  rw [← BitVec.testBit_toNat, BitVec.toNat_ofNat, Nat.mod_eq_of_lt (by omega), Nat.testBit_zero] at h
  rw [e1, h, ← BitVec.testBit_toNat, Nat.testBit_eq_decide_div_mod_eq]
  by_cases e : c.toNat / 2 ^ n % 2 = 1
  · simp [e, Crc.bit1]
  · simp [e, Crc.bit1]
theorem byte_in (c : BitVec 8) (r : BitVec 32) : Crc.stN (fun p => c.getLsbD p) r 8 = Crc.dnN 8 (Crc.plus r c) := by
  have := Crc.stN_low (fun p => c.getLsbD p) r (c.setWidth 32) 0 8 (by omega) (fun i hi => by rw [BitVec.getLsbD_setWidth]; simp; omega)
  rw [Crc.byte_low] at this
  exact this
/-- A text's bytes. -/
def bytesOf (s : ByteArray) : List (BitVec 8) := s.data.toList.map fun c => BitVec.ofNat 8 c.toNat
theorem bytesOf_length (s : ByteArray) : (bytesOf s).length = s.size := by simp [bytesOf]
set_option maxRecDepth 100000 in
set_option maxHeartbeats 400000 in
theorem rmore_any (s : BitVec 32) (t : ByteArray) (w : World) (hm : t.size ≤ maxLen) :
    Calls Tryz.prog 117 #[.int .u32 (s.toNat : Int), .string t] w fun e w' => e = .returned (.int .u32 ((Crc.more s (bytesOf t)).toNat : Int)) ∧ w = w' := by
  unfold maxLen at hm
  have hs := s.isLt
  have HN := Lib.hid (not_bv s)
  go_enter Tryz.func117, Tryz.ntmps117
  go_wp2
  go_loop [5, 6, 7] (fun r i _ => ∃ k : Nat, k ≤ t.size ∧ r = .int .u32 ((Crc.over (Crc.inv s) ((bytesOf t).take k)).toNat : Int) ∧ i = .int .i64 (k : Int)) (fun _ i _ => t.size - (intOf i).toNat)
  case atStart => exact ⟨0, by omega, by rw [HN.out]; rfl, rfl⟩
  case round =>
    obtain ⟨k, hk, rfl, rfl⟩ := hrel
    by_cases hlt : k < t.size
    · have HO := Lib.hid (over_take (Crc.inv s) (bytesOf t) k (by rw [bytesOf_length]; exact hlt))
      have hck : ((bytesOf t)[k]'(by rw [bytesOf_length]; exact hlt)).toNat = (t[k]).toNat := by
        simp [bytesOf]; rfl
      generalize (bytesOf t)[k]'(by rw [bytesOf_length]; exact hlt) = c at *
      have HC := Lib.hid hck
      clear hck
      generalize hr0 : Crc.over (Crc.inv s) ((bytesOf t).take k) = r0 at *
      have HR := Lib.hid hr0
      clear hr0
      go_wp2
      go_loop [5, 7] (fun r j => ∃ n : Nat, n ≤ 8 ∧ r = .int .u32 ((Crc.stN (fun p => c.getLsbD p) r0 n).toNat : Int) ∧ j = .int .i64 (n : Int)) (fun _ j => 8 - (intOf j).toNat)
      case atStart => exact ⟨0, by omega, rfl, rfl⟩
      case round =>
        obtain ⟨n, hn, rfl, rfl⟩ := hrel
        by_cases h8 : n < 8
        · have HB := Lib.hid (bit_of c (t[k]).toNat n HC.out)
          go_wp2_with fail
          rw [HB.out]
          refine (step_any _ _ _).mono ?_
          rintro e w' ⟨rfl, rfl⟩
          go_wp2
          go_round
          case rel => exact ⟨n + 1, by omega, rfl, by go_num⟩
          case measure => simp [intOf]; omega
        · obtain rfl : n = 8 := by omega
          have HE := Lib.hid (byte_in c r0)
          go_wp2
          go_round
          case rel => exact ⟨k + 1, by omega, by rw [HO.out, HE.out], by go_num⟩
          case measure => simp [intOf]; omega
    · have HN2 := Lib.hid (not_bv (Crc.over (Crc.inv s) ((bytesOf t).take k)))
      go_wp2
      go_ret
      exact ⟨ret_int (by rw [HN2.out, List.take_of_length_le (by rw [bytesOf_length]; omega)]; rfl), rfl⟩

set_option maxRecDepth 100000 in
set_option maxHeartbeats 400000 in
theorem rsum_any (t : ByteArray) (w : World) (hm : t.size ≤ maxLen) :
    Calls Tryz.prog 105 #[.string t] w fun e w' => e = .returned (.int .u32 ((Crc.sum (bytesOf t)).toNat : Int)) ∧ w = w' := by
  go_enter Tryz.func105, Tryz.ntmps105
  go_wp2_with (go_at_call 117; refine (rmore_any 0#32 _ _ hm).mono ?_; rintro e w' ⟨rfl, rfl⟩)
  go_ret
  exact ⟨rfl, rfl⟩

end Go.Proofs.YtadnecgcoceklaaGreatDoor.FR.CR
