/-
  A log's file's name: six digits and .log.
-/
import Derived.Test.YtadnecgcoceklaaGreatDoorFsFsPure
import Derived.Lib.ItoaNum
import Derived.Lib.AtoiAll
import Derived.Lib.Strings
namespace Go.Proofs.YtadnecgcoceklaaGreatDoor
open Go.RowKit

def dgt (q : Nat) : UInt8 := UInt8.ofNat (48 + q % 10)
theorem dgt_nat (q : Nat) : (dgt q).toNat = 48 + q % 10 := by
  unfold dgt; rw [UInt8.toNat_ofNat']; omega
theorem dgt_eq {p q : Nat} : dgt p = dgt q ↔ p % 10 = q % 10 := by
  constructor
  · intro h; have := congrArg UInt8.toNat h; rw [dgt_nat, dgt_nat] at this; omega
  · intro h; unfold dgt; rw [h]
theorem dgt_lt {p q : Nat} (h : p % 10 < q % 10) : dgt p < dgt q := by
  rw [UInt8.lt_iff_toNat_lt, dgt_nat, dgt_nat]; omega
def wnm (n : Nat) : Bs := [dgt (n / 100000), dgt (n / 10000), dgt (n / 1000), dgt (n / 100), dgt (n / 10), dgt n, 46, 108, 111, 103]
def wName (n : Int) : Bs := if n < 1 ∨ 999999 < n then [] else wnm n.toNat
theorem wName_in {n : Nat} (h1 : 1 ≤ n) (h2 : n ≤ 999999) : wName (n : Int) = wnm n := by
  unfold wName; rw [if_neg (by omega), Int.toNat_natCast]
theorem wnm_length (n : Nat) : (wnm n).length = 10 := rfl
theorem inNm_dgt (q : Nat) : inNm (dgt q).toNat = true := by
  rw [dgt_nat]; unfold inNm
  have h : q % 10 < 10 := Nat.mod_lt _ (by omega)
  have e1 : decide (48 ≤ 48 + q % 10) = true := by simp
  have e2 : decide (48 + q % 10 ≤ 57) = true := by simp; omega
  rw [e1, e2]; simp
theorem wnm_nm (n : Nat) : isNm (wnm n) = true := by
  unfold isNm
  have e : ((wnm n).all fun c => inNm c.toNat) = true := by
    simp only [wnm, List.all_cons, inNm_dgt, Bool.true_and]
    decide
  rw [e]; rfl
theorem wnm_inj {m n : Nat} (hm : m < 1000000) (hn : n < 1000000) (h : wnm m = wnm n) : m = n := by
  simp only [wnm, List.cons.injEq, dgt_eq, and_true] at h
  omega
theorem before_eq {a : UInt8} {r s : Bs} : bytesBefore (a :: r) (a :: s) = bytesBefore r s := by
  simp [bytesBefore]
theorem before_lt {a b : UInt8} {r s : Bs} (h : a < b) : bytesBefore (a :: r) (b :: s) = true := by
  simp [bytesBefore, h]
theorem wnm_lt {m n : Nat} (h : m < n) (hn : n < 1000000) : bytesBefore (wnm m) (wnm n) = true := by
  unfold wnm
  by_cases h5 : m / 100000 < n / 100000
  · exact before_lt (dgt_lt (by omega))
  · rw [show dgt (m / 100000) = dgt (n / 100000) from dgt_eq.2 (by omega), before_eq]
    by_cases h4 : m / 10000 < n / 10000
    · exact before_lt (dgt_lt (by omega))
    · rw [show dgt (m / 10000) = dgt (n / 10000) from dgt_eq.2 (by omega), before_eq]
      by_cases h3 : m / 1000 < n / 1000
      · exact before_lt (dgt_lt (by omega))
      · rw [show dgt (m / 1000) = dgt (n / 1000) from dgt_eq.2 (by omega), before_eq]
        by_cases h2 : m / 100 < n / 100
        · exact before_lt (dgt_lt (by omega))
        · rw [show dgt (m / 100) = dgt (n / 100) from dgt_eq.2 (by omega), before_eq]
          by_cases h1 : m / 10 < n / 10
          · exact before_lt (dgt_lt (by omega))
          · rw [show dgt (m / 10) = dgt (n / 10) from dgt_eq.2 (by omega), before_eq]
            exact before_lt (dgt_lt (by omega))
theorem decDigits_ge {u : Nat} (h : 10 ≤ u) : Lib.decDigits u = Lib.decDigits (u / 10) ++ [dgt u] := by
  rw [Lib.decDigits, dif_neg (by omega)]; rfl
theorem digits_seven {n : Nat} (h : n < 1000000) : Lib.decDigits (1000000 + n) = [49, dgt (n / 100000), dgt (n / 10000), dgt (n / 1000), dgt (n / 100), dgt (n / 10), dgt n] := by
  rw [decDigits_ge (by omega), decDigits_ge (by omega), decDigits_ge (by omega), decDigits_ge (by omega), decDigits_ge (by omega), decDigits_ge (by omega)]
  have e0 : (1000000 + n) / 10 / 10 / 10 / 10 / 10 / 10 = 1 := by omega
  rw [e0, Lib.decDigits, dif_pos (by omega)]
  rw [show dgt (1000000 + n) = dgt n from dgt_eq.2 (by omega), show dgt ((1000000 + n) / 10) = dgt (n / 10) from dgt_eq.2 (by omega), show dgt ((1000000 + n) / 10 / 10) = dgt (n / 100) from dgt_eq.2 (by omega),
    show dgt ((1000000 + n) / 10 / 10 / 10) = dgt (n / 1000) from dgt_eq.2 (by omega), show dgt ((1000000 + n) / 10 / 10 / 10 / 10) = dgt (n / 10000) from dgt_eq.2 (by omega),
    show dgt ((1000000 + n) / 10 / 10 / 10 / 10 / 10) = dgt (n / 100000) from dgt_eq.2 (by omega)]
  rfl
def dotLog : Bs := [46, 108, 111, 103]
/-- The number that a name tells. -/
def numOf (s : Bs) : Option Nat :=
  match Lib.atoiAll (Lib.trimSuffix s dotLog) with
  | .ok v => if wName v = s then some v.toNat else none
  | _ => none
theorem trim_wnm (n : Nat) : Lib.trimSuffix (wnm n) dotLog = [dgt (n / 100000), dgt (n / 10000), dgt (n / 1000), dgt (n / 100), dgt (n / 10), dgt n] := by
  unfold Lib.trimSuffix Lib.hasSuffix
  rw [if_pos]
  · rfl
  · rw [List.isSuffixOf_iff_suffix]
    exact ⟨[dgt (n / 100000), dgt (n / 10000), dgt (n / 1000), dgt (n / 100), dgt (n / 10), dgt n], rfl⟩
theorem parse_step {acc q : Nat} {r : List UInt8} (h : acc < 100000000) : Lib.parseUint10 acc (dgt q :: r) = Lib.parseUint10 (acc * 10 + q % 10) r := by
  have hq : q % 10 < 10 := Nat.mod_lt _ (by omega)
  rw [Lib.parseUint10, dgt_nat, if_pos ⟨by omega, by omega⟩, if_neg (by omega), if_neg (by omega), Nat.add_sub_cancel_left]
theorem atoi_digits {n : Nat} (h : n < 1000000) : Lib.atoiAll [dgt (n / 100000), dgt (n / 10000), dgt (n / 1000), dgt (n / 100), dgt (n / 10), dgt n] = .ok (n : Int) := by
  have h0 := dgt_nat (n / 100000)
  have hm : Lib.parseMag [dgt (n / 100000), dgt (n / 10000), dgt (n / 1000), dgt (n / 100), dgt (n / 10), dgt n] = .ok n := by
    unfold Lib.parseMag
    rw [if_neg (by simp), parse_step (by omega), parse_step (by omega), parse_step (by omega), parse_step (by omega), parse_step (by omega), parse_step (by omega), Lib.parseUint10]
    congr 1; omega
  unfold Lib.atoiAll
  have hc : (dgt (n / 100000)).toNat ≠ 43 ∧ (dgt (n / 100000)).toNat ≠ 45 := by omega
  simp only [hc.1, hc.2, or_self, if_false, hm]
  rw [if_neg (by omega), if_neg (by simp)]
theorem numOf_wnm {n : Nat} (h1 : 1 ≤ n) (h2 : n ≤ 999999) : numOf (wnm n) = some n := by
  unfold numOf
  rw [trim_wnm, atoi_digits (by omega)]
  simp only [wName_in h1 h2, if_true, Int.toNat_natCast]
theorem numOf_some {s : Bs} {n : Nat} (h : numOf s = some n) (hs : s ≠ []) : s = wnm n ∧ 1 ≤ n ∧ n ≤ 999999 := by
  unfold numOf at h
  split at h
  · rename_i v _
    split at h
    · rename_i hw
      injection h with h
      unfold wName at hw
      split at hw
      · exact absurd hw.symm hs
      · subst h
        exact ⟨hw.symm, by omega, by omega⟩
    · cases h
  · cases h
end Go.Proofs.YtadnecgcoceklaaGreatDoor
