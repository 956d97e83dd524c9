/-
  What the small functions of package crc, and of the document's own sums, answer.
-/
import Derived.Test.YtipcbnjfeijheaaProg
import Derived.Test.YtipcbnjfeijheaaCrcPure
import Derived.WalkKit
import Derived.WalkSpells
import Derived.WalkLawsBesides
import Derived.BigQuiet
import Derived.Lib.Hide
import Derived.Outline
import Derived.Deep.LoopGhost
import Derived.Deep.QuietTactic
namespace Go.Proofs.Ytipcbnjfeijheaa
open Go.RowKit

theorem bv_ofInt (r : BitVec 32) : BitVec.ofInt 32 (r.toNat : Int) = r := by
  rw [BitVec.ofInt_natCast, BitVec.ofNat_toNat, BitVec.setWidth_eq]
theorem u32_xor_bv (a b : BitVec 32) : bits .xor .u32 (a.toNat : Int) (b.toNat : Int) = ((a ^^^ b).toNat : Int) := by
  show IntKind.u32.wrap ((BitVec.ofInt 32 (a.toNat : Int) ^^^ BitVec.ofInt 32 (b.toNat : Int)).toNat : Int) = _
  rw [bv_ofInt, bv_ofInt, IntKind.wrap_u32]; have := (a ^^^ b).isLt; omega
theorem u32_and_bv (a b : BitVec 32) : bits .and .u32 (a.toNat : Int) (b.toNat : Int) = ((a &&& b).toNat : Int) := by
  show IntKind.u32.wrap ((BitVec.ofInt 32 (a.toNat : Int) &&& BitVec.ofInt 32 (b.toNat : Int)).toNat : Int) = _
  rw [bv_ofInt, bv_ofInt, IntKind.wrap_u32]; have := (a &&& b).isLt; omega
theorem u32_or_bv (a b : BitVec 32) : bits .or .u32 (a.toNat : Int) (b.toNat : Int) = ((a ||| b).toNat : Int) := by
  show IntKind.u32.wrap ((BitVec.ofInt 32 (a.toNat : Int) ||| BitVec.ofInt 32 (b.toNat : Int)).toNat : Int) = _
  rw [bv_ofInt, bv_ofInt, IntKind.wrap_u32]; have := (a ||| b).isLt; omega

theorem bits_or_comm (x y : Int) : bits .or .u32 x y = bits .or .u32 y x := by
  show IntKind.u32.wrap ((BitVec.ofInt 32 x ||| BitVec.ofInt 32 y).toNat : Int) = IntKind.u32.wrap ((BitVec.ofInt 32 y ||| BitVec.ofInt 32 x).toNat : Int)
  rw [BitVec.or_comm]
theorem ret_int {k : IntKind} {a b : Int} (h : a = b) : Ending.returned (.int k a) = .returned (.int k b) := by rw [h]

theorem half_bv (r : BitVec 32) : (r.toNat : Int) / (2 : Int) = ((r >>> 1).toNat : Int) := by
  rw [BitVec.toNat_ushiftRight, Nat.shiftRight_eq_div_pow]; omega
theorem and1_bv (r : BitVec 32) : bits .and .u32 (r.toNat : Int) 1 = if r.getLsbD 0 then 1 else 0 := by
  have h := u32_and_bv r 1#32
  have e : (((1#32 : BitVec 32).toNat : Nat) : Int) = 1 := rfl
  rw [e] at h; rw [h, BitVec.toNat_and]
  have e2 : r.toNat &&& (1#32 : BitVec 32).toNat = r.toNat % 2 := Nat.and_one_is_mod _
  rw [e2]
  have e3 : r.getLsbD 0 = decide (r.toNat % 2 = 1) := by rw [← BitVec.testBit_toNat, Nat.testBit_zero]
  rw [e3]
  by_cases h : r.toNat % 2 = 1 <;> simp [h]; omega
theorem poly_bv (r : BitVec 32) : bits .xor .u32 ((r.toNat : Int) / 2) 2197175160 = (((r >>> 1) ^^^ Crc.poly).toNat : Int) := by
  rw [half_bv]; exact u32_xor_bv (r >>> 1) Crc.poly

set_option maxRecDepth 100000 in
set_option maxHeartbeats 400000 in
theorem down_any (r : BitVec 32) (w : World) :
    Calls Try.prog 18 #[.int .u32 (r.toNat : Int)] w fun e w' => e = .returned (.int .u32 ((Crc.dn r).toNat : Int)) ∧ w = w' := by
  have hr := r.isLt
  have h1 := and1_bv r
  have hp := Lib.hid (poly_bv r)
  have hh := Lib.hid (half_bv r)
  cases hb : r.getLsbD 0
  · rw [hb] at h1
    have hd : Crc.dn r = r >>> 1 := by unfold Crc.dn; rw [hb]; rfl
    have HD := Lib.hid hd
    have hc : (bits .and .u32 (r.toNat : Int) 1 == 1) = false := by rw [h1]; rfl
    clear h1 hb hd
    go_enter Try.func18, Try.ntmps18
    go_wp2
    go_ret
    exact ⟨ret_int (by rw [HD.out]; exact hh.out), rfl⟩
  · rw [hb] at h1
    have hd : Crc.dn r = (r >>> 1) ^^^ Crc.poly := by unfold Crc.dn; rw [hb]; rfl
    have HD := Lib.hid hd
    have hc : (bits .and .u32 (r.toNat : Int) 1 == 1) = true := by rw [h1]; rfl
    clear h1 hb hd
    go_enter Try.func18, Try.ntmps18
    go_wp2
    go_ret
    exact ⟨ret_int (by rw [HD.out]; exact hp.out), rfl⟩

/-- A mask, and what is masked, by divisions. -/
def maskN (n : Nat) : Nat := (n % 32768 * 131072 + n / 32768 + 2726488792) % 4294967296
def unmaskN (m : Nat) : Nat := (m + 1568478504) % 4294967296 % 131072 * 32768 + (m + 1568478504) % 4294967296 / 131072
theorem maskN_lt (n : Nat) : maskN n < 4294967296 := Nat.mod_lt _ (by omega)
theorem unmaskN_lt (n : Nat) : unmaskN n < 4294967296 := by unfold unmaskN; omega
theorem unmask_mask (n : Nat) (h : n < 4294967296) : unmaskN (maskN n) = n := by
  unfold unmaskN maskN
  have e : ((n % 32768 * 131072 + n / 32768 + 2726488792) % 4294967296 + 1568478504) % 4294967296 = n % 32768 * 131072 + n / 32768 := by omega
  rw [e]
  have e1 : (n % 32768 * 131072 + n / 32768) % 131072 = n / 32768 := by omega
  have e2 : (n % 32768 * 131072 + n / 32768) / 131072 = n % 32768 := by omega
  rw [e1, e2]; omega
set_option maxRecDepth 100000 in
theorem mask_unmask (n : Nat) (h : n < 4294967296) : maskN (unmaskN n) = n := by
  unfold unmaskN maskN
  generalize hm : (n + 1568478504) % 4294967296 = m
  have e1 : (m % 131072 * 32768 + m / 131072) % 32768 = m / 131072 := by omega
  have e2 : (m % 131072 * 32768 + m / 131072) / 32768 = m % 131072 := by omega
  rw [e1, e2]; omega
set_option maxRecDepth 100000 in
theorem or_turn (n k j : Nat) (hk : k + j = 32) (h : n < 4294967296) : bits .or .u32 ((n : Int) / (2 ^ k : Nat)) ((n : Int) * (2 ^ j : Nat) % 4294967296) = ((n % 2 ^ k * 2 ^ j + n / 2 ^ k : Nat) : Int) := by
  have hp : 2 ^ k * 2 ^ j = 4294967296 := by rw [← Nat.pow_add, hk]
  have e1 : n * 2 ^ j % 4294967296 = n % 2 ^ k * 2 ^ j := by rw [← hp, Nat.mul_mod_mul_right]
  have hlt : n / 2 ^ k < 2 ^ j := Nat.div_lt_of_lt_mul (by rw [hp]; exact h)
  have e2 : (n : Int) * (2 ^ j : Nat) % 4294967296 = ((n % 2 ^ k * 2 ^ j : Nat) : Int) := by rw [← e1, Int.natCast_emod, Int.natCast_mul]; rfl
  have e3 : (n : Int) / (2 ^ k : Nat) = ((n / 2 ^ k : Nat) : Int) := (Int.natCast_ediv _ _).symm
  rw [e2, e3]
  have hj : 2 ^ j ≤ 4294967296 := by rw [← hp]; exact Nat.le_mul_of_pos_left _ (Nat.two_pow_pos _)
  have l1 : n / 2 ^ k < 4294967296 := by omega
  have l2 : n % 2 ^ k * 2 ^ j < 4294967296 := by
    rw [← e1]; exact Nat.mod_lt _ (by omega)
  have h2 := u32_or_bv (BitVec.ofNat 32 (n / 2 ^ k)) (BitVec.ofNat 32 (n % 2 ^ k * 2 ^ j))
  rw [BitVec.toNat_or, BitVec.toNat_ofNat, BitVec.toNat_ofNat, Nat.mod_eq_of_lt (by omega), Nat.mod_eq_of_lt (by omega)] at h2
  rw [h2, Nat.or_comm, Nat.mul_comm (n % 2 ^ k), ← Nat.two_pow_add_eq_or_of_lt hlt]

set_option maxRecDepth 100000 in
set_option maxHeartbeats 400000 in
theorem mask_any (n : Nat) (h : n < 4294967296) (w : World) :
    Calls Try.prog 14 #[.int .u32 (n : Int)] w fun e w' => e = .returned (.int .u32 (maskN n : Int)) ∧ w = w' := by
  have h1 := Lib.hid (or_turn n 15 17 rfl h)
  go_enter Try.func14, Try.ntmps14
  go_wp2
  go_ret
  exact ⟨ret_int (by have e := h1.out; rw [show ((2 ^ 15 : Nat) : Int) = 32768 from rfl, show ((2 ^ 17 : Nat) : Int) = 131072 from rfl] at e; rw [e]; unfold maskN; omega), rfl⟩
set_option maxRecDepth 100000 in
set_option maxHeartbeats 400000 in
theorem rmask_any (n : Nat) (_h : n < 4294967296) (w : World) :
    Calls Try.prog 15 #[.int .u32 (n : Int)] w fun e w' => e = .returned (.int .u32 (maskN n : Int)) ∧ w = w' := by
  go_enter Try.func15, Try.ntmps15
  go_wp2
  go_ret
  exact ⟨ret_int (by unfold maskN; omega), rfl⟩
set_option maxRecDepth 100000 in
set_option maxHeartbeats 400000 in
theorem unmask_any (n : Nat) (_h : n < 4294967296) (w : World) :
    Calls Try.prog 16 #[.int .u32 (n : Int)] w fun e w' => e = .returned (.int .u32 (unmaskN n : Int)) ∧ w = w' := by
  have h1 := Lib.hid (or_turn ((n + 1568478504) % 4294967296) 17 15 rfl (Nat.mod_lt _ (by omega)))
  go_enter Try.func16, Try.ntmps16
  go_wp2
  go_ret
  exact ⟨ret_int (by
    have e := h1.out
    rw [show ((2 ^ 15 : Nat) : Int) = 32768 from rfl, show ((2 ^ 17 : Nat) : Int) = 131072 from rfl] at e
    have e0 : ((n : Int) - 2726488792) % 4294967296 = (((n + 1568478504) % 4294967296 : Nat) : Int) := by omega
    first | rw [e0, bits_or_comm, e] | (rw [show ((n : Int) + 1568478504) % 4294967296 = (((n + 1568478504) % 4294967296 : Nat) : Int) by omega, bits_or_comm, e])
    rfl), rfl⟩
set_option maxRecDepth 100000 in
set_option maxHeartbeats 400000 in
theorem runmask_any (n : Nat) (_h : n < 4294967296) (w : World) :
    Calls Try.prog 17 #[.int .u32 (n : Int)] w fun e w' => e = .returned (.int .u32 (unmaskN n : Int)) ∧ w = w' := by
  go_enter Try.func17, Try.ntmps17
  go_wp2
  go_ret
  exact ⟨ret_int (by unfold unmaskN; omega), rfl⟩

theorem and1_i64 (k : Nat) (hk : k < 9223372036854775808) : bits .and .i64 (k : Int) 1 = ((k % 2 : Nat) : Int) := by
  show IntKind.i64.wrap ((BitVec.ofInt 64 (k : Int) &&& BitVec.ofInt 64 1).toNat : Int) = _
  have e : BitVec.ofInt 64 (k : Int) &&& BitVec.ofInt 64 1 = BitVec.ofNat 64 (k % 2) := by
    apply BitVec.eq_of_toNat_eq
    rw [BitVec.toNat_and, BitVec.ofInt_natCast, BitVec.toNat_ofNat, BitVec.toNat_ofNat, Nat.mod_eq_of_lt (show k < 2 ^ 64 by omega)]
    rw [show (BitVec.ofInt 64 1).toNat = 1 from rfl, Nat.and_one_is_mod]; omega
  rw [e, BitVec.toNat_ofNat, Nat.mod_eq_of_lt (by omega), IntKind.wrap_i64]; omega
def Crc.shl (b : BitVec 32) (k : Nat) : BitVec 32 := b <<< k
def Crc.R.up (y : BitVec 32) : Int := (y.toNat : Int) * 2 % 4294967296
theorem up_bv (y : BitVec 32) : Crc.R.up y = ((y <<< 1).toNat : Int) := by
  unfold Crc.R.up; rw [BitVec.toNat_shiftLeft, Nat.shiftLeft_eq]; omega
theorem top_bv (y : BitVec 32) : (((y.toNat : Int) / 2147483648) == 1) = y.msb := by
  rw [BitVec.msb_eq_decide]; have := y.isLt
  by_cases h : 2 ^ (32 - 1) ≤ y.toNat
  · rw [decide_eq_true h]; simp; omega
  · rw [decide_eq_false h]; simp; omega
set_option maxRecDepth 100000 in
set_option maxHeartbeats 400000 in
theorem times_any (a b : BitVec 32) (w : World) :
    Calls Try.prog 20 #[.int .u32 (a.toNat : Int), .int .u32 (b.toNat : Int)] w fun e w' => e = .returned (.int .u32 ((Crc.prod a b).toNat : Int)) ∧ w = w' := by
  go_enter Try.func20, Try.ntmps20
  go_wp2
  go_loopg [5, 0, 1] 32 (fun g p x y wr => ∃ k : Nat, k + g = 32 ∧ p = .int .u32 ((Crc.prodK k a b).toNat : Int) ∧ x = .int .u32 ((Crc.dnN k a).toNat : Int) ∧ y = .int .u32 ((Crc.shl b k).toNat : Int) ∧ w = wr)
  case atStart => exact ⟨0, by omega, rfl, rfl, by simp [Crc.shl], rfl⟩
  case round =>
    obtain ⟨k, hk, rfl, rfl, rfl, rfl⟩ := hrel
    have hk' : k ≤ 32 := by omega
    have HK := Lib.hid hk
    clear hk
    by_cases hz : b <<< k = 0#32
    · have hf : Crc.prodK k a b = Crc.prod a b := (Crc.prodK_end k a b hz 32 hk').symm
      have HF := Lib.hid hf
      have h0 : (((Crc.shl b k).toNat : Int) != 0) = false := by unfold Crc.shl; rw [hz]; rfl
      clear hz hf
      go_wp2
      go_ret
      exact ⟨ret_int (by rw [HF.out]), rfl⟩
    · have hy : (Crc.shl b k).toNat ≠ 0 := fun h => hz (BitVec.eq_of_toNat_eq h)
      have h0 : (((Crc.shl b k).toNat : Int) != 0) = true := by simpa using hy
      have hk31 : k < 32 := by
        rcases Nat.lt_or_ge k 32 with h | h
        · exact h
        · exfalso; apply hz; apply BitVec.eq_of_getLsbD_eq; intro i hi; rw [BitVec.getLsbD_shiftLeft]; simp; omega
      have hsh : Crc.R.up (Crc.shl b k) = ((Crc.shl b (k + 1)).toNat : Int) := by unfold Crc.shl; rw [BitVec.shiftLeft_add]; exact up_bv _
      have htop : ((((Crc.shl b k).toNat : Int) / 2147483648) == 1) = b.getMsbD k := by
        rw [top_bv, BitVec.msb_eq_getMsbD_zero]; unfold Crc.shl; rw [BitVec.getMsbD_shiftLeft]; simp
      have HS := Lib.hid hsh
      have hx := Lib.hid (u32_xor_bv (Crc.prodK k a b) (Crc.dnN k a))
      have hpk : Crc.prodK (k + 1) a b = Crc.prodK k a b ^^^ (if b.getMsbD k then Crc.dnN k a else 0#32) := rfl
      clear hz hsh hy
      cases hm : b.getMsbD k
      · rw [hm] at htop
        have HP : Hid (Crc.prodK (k + 1) a b = Crc.prodK k a b) := Lib.hid (by rw [hpk, hm]; simp)
        clear hm hpk
        go_wp2_with (go_at_call 18; refine (down_any _ _).mono ?_; rintro e w' ⟨rfl, rfl⟩)
        go_roundg (gk - 1)
        case measure => have := HK.out; omega
        case rel => exact ⟨k + 1, by have := HK.out; omega, by rw [HP.out], rfl, by rw [← HS.out]; rfl, rfl⟩
      · rw [hm] at htop
        have HP : Hid (Crc.prodK (k + 1) a b = Crc.prodK k a b ^^^ Crc.dnN k a) := Lib.hid (by rw [hpk, hm]; simp)
        clear hm hpk
        go_wp2_with (go_at_call 18; refine (down_any _ _).mono ?_; rintro e w' ⟨rfl, rfl⟩)
        go_roundg (gk - 1)
        case measure => have := HK.out; omega
        case rel => exact ⟨k + 1, by have := HK.out; omega, by rw [HP.out, hx.out], rfl, by rw [← HS.out]; rfl, rfl⟩

set_option maxRecDepth 100000 in
set_option maxHeartbeats 400000 in
theorem join_any (a b : BitVec 32) (n : Nat) (hn : n < 9223372036854775808) (w : World) :
    Calls Try.prog 13 #[.int .u32 (a.toNat : Int), .int .u32 (b.toNat : Int), .int .i64 (n : Int)] w fun e w' => e = .returned (.int .u32 ((Crc.join a b n).toNat : Int)) ∧ w = w' := by
  go_enter Try.func13, Try.ntmps13
  go_wp2
  go_loop [0, 2, 7] (fun x c m => ∃ (k : Nat) (y v : BitVec 32) (d : Nat), k ≤ n ∧ x = .int .u32 (y.toNat : Int) ∧ c = .int .i64 (k : Int) ∧ m = .int .u32 (v.toNat : Int) ∧ Crc.IsMove v d ∧ Crc.dnN (d * k) y = Crc.dnN (8 * n) a) (fun _ c _ => (intOf c).toNat)
  case atStart => exact ⟨n, a, 8388608#32, 8, Nat.le_refl _, rfl, rfl, rfl, Crc.move8, rfl⟩
  case round =>
    obtain ⟨k, y, v, d, hk, rfl, rfl, rfl, hm, he⟩ := hrel
    have HM := Lib.hid hm
    have HE := Lib.hid he
    clear hm he
    by_cases h0 : k = 0
    · subst h0
      have hx := Lib.hid (u32_xor_bv y b)
      go_wp2
      go_ret
      exact ⟨ret_int (by rw [hx.out]; have := HE.out; simp only [Nat.mul_zero] at this; unfold Crc.join; rw [← this]; rfl), rfl⟩
    · have hp : 0 < k := by omega
      have h2 : (bits .and .i64 (k : Int) 1 == 1) = decide (k % 2 = 1) := by rw [and1_i64 k (by omega)]; by_cases e : k % 2 = 1 <;> simp [e]; omega
      by_cases e : k % 2 = 1
      · rw [decide_eq_true e] at h2
        go_wp2_with (go_at_call 20; refine (times_any _ _ _).mono ?_; rintro e w' ⟨rfl, rfl⟩)
        go_round
        case rel => 
          refine ⟨k / 2, Crc.prod y v, Crc.prod v v, d + d, by omega, rfl, by go_num, rfl, HM.out.sq, ?_⟩
          rw [HM.out y, ← Crc.dnN_add, ← HE.out]
          congr 1
          have : k = 2 * (k / 2) + 1 := by omega
          generalize k / 2 = q at *
          subst this
          rw [Nat.add_mul, Nat.mul_add, Nat.mul_one, Nat.mul_left_comm]; omega
        case measure => simp [intOf]; omega
      · rw [decide_eq_false e] at h2
        go_wp2_with (go_at_call 20; refine (times_any _ _ _).mono ?_; rintro e w' ⟨rfl, rfl⟩)
        go_round
        case rel =>
          refine ⟨k / 2, y, Crc.prod v v, d + d, by omega, rfl, by go_num, rfl, HM.out.sq, ?_⟩
          rw [← HE.out]
          congr 1
          have : k = 2 * (k / 2) := by omega
          generalize k / 2 = q at *
          subst this
          rw [Nat.add_mul, Nat.mul_left_comm]; omega
        case measure => simp [intOf]; omega
end Go.Proofs.Ytipcbnjfeijheaa
