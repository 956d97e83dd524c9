/-
  What GetSigned answers; bytes as texts; the laws' own look 'counts'.
-/
import Derived.Test.YthpcgdgahlcblaaVaVarW1
namespace Go.Proofs.Ythpcgdgahlcblaa.VA
open Go.RowKit

theorem get_at (w : World) (a : Option Addr) (cap n : Nat) (l : List Nat) (hn : l.length = n) (hl : Byt w a l) (hb : ∀ x ∈ l, x < 256) (hc : n ≤ cap) (hm : n ≤ maxLen) :
    Calls Try.prog 106 #[.slice a n cap] w fun e w' => e = .returned (tup (getS l)) ∧ w = w' := by
  subst hn; exact get_any w a cap l hl hb hc hm
theorem getF_lt (i acc : Nat) (l : List Nat) (ha : acc < 2 ^ (7 * i)) (hi : i ≤ 10) (hb : ∀ x ∈ l, x < 256) : (getF i acc l).1 < 18446744073709551616 ∧ (getF i acc l).2.1 ≤ i + l.length ∧ (getF i acc l).2.2 ≤ 9 := by
  induction l generalizing i acc with
  | nil => exact ⟨by simp [getF], by simp [getF], by simp [getF]⟩
  | cons c l ih =>
    unfold getF
    by_cases h1 : 10 ≤ i
    · simp [h1]
    · by_cases h2 : i = 9 ∧ 1 < c
      · rw [if_neg h1, if_pos h2]; simp
      · have hc := hb c (by simp)
        have hmod : c % 128 < 128 := Nat.mod_lt _ (by omega)
        by_cases h3 : 128 ≤ c
        · rw [if_neg h1, if_neg h2, if_pos h3]
          have ho := or_put acc (c % 128) i (by omega) ha hmod (fun e => by omega)
          have := ih (i + 1) _ ho.2.1 (by omega) (fun x hx => hb x (by simp [hx]))
          simp only [List.length_cons]; omega
        · have ho := or_put acc (c % 128) i (by omega) ha hmod (fun e => by omega)
          by_cases h4 : c = 0 ∧ 0 < i
          · rw [if_neg h1, if_neg h2, if_neg h3, if_pos h4]; simp
          · rw [if_neg h1, if_neg h2, if_neg h3, if_neg h4]
            simp only [List.length_cons]; exact ⟨ho.2.2, by omega, by omega⟩
theorem getS_lt (l : List Nat) (hb : ∀ x ∈ l, x < 256) : (getS l).1 < 18446744073709551616 ∧ (getS l).2.1 ≤ l.length ∧ (getS l).2.2 ≤ 9 := by
  have := getF_lt 0 0 l (by simp) (by omega) hb
  simpa [getS] using this
theorem and1_u64 (n : Nat) (_h : n < 18446744073709551616) : bits .and .u64 (n : Int) 1 = ((n % 2 : Nat) : Int) := by
  show IntKind.u64.wrap ((BitVec.ofInt 64 (n : Int) &&& BitVec.ofInt 64 1).toNat : Int) = _
  rw [BitVec.toNat_and, BitVec.ofInt_natCast, BitVec.toNat_ofNat, show (BitVec.ofInt 64 1).toNat = 1 from rfl, Nat.and_one_is_mod, u64_val]; omega
theorem unfold_val (n : Nat) (h : n < 18446744073709551616) : bits .xor .i64 ((n : Int) / 2) (-((n % 2 : Nat) : Int)) = unfoldI n := by
  unfold unfoldI
  by_cases e : n % 2 = 1
  · rw [if_pos e, e, show (-((1 : Nat) : Int)) = -1 from rfl, xor_onesI _ (by omega)]; omega
  · rw [if_neg e, show n % 2 = 0 by omega, show (-((0 : Nat) : Int)) = 0 from rfl, xor_zeroI _ (by omega)]; omega
def tupS (r : Nat × Nat × Nat) : Value := .tuple #[.int .i64 (unfoldI r.1), .int .i64 (r.2.1 : Int), .int .i64 (r.2.2 : Int)]
/-- Bytes as a text. -/
def strOf (l : List Nat) : ByteArray := ⟨(l.map fun c => UInt8.ofNat c).toArray⟩
theorem strOf_size (l : List Nat) : (strOf l).size = l.length := by
  show ((l.map fun c => UInt8.ofNat c).toArray).size = _
  simp
theorem strOf_inj {l m : List Nat} (hl : ∀ x ∈ l, x < 256) (hm : ∀ x ∈ m, x < 256) (h : strOf l = strOf m) : l = m := by
  have h1 : l.map (fun c => UInt8.ofNat c) = m.map (fun c => UInt8.ofNat c) := by
    have := congrArg ByteArray.data h
    exact List.toArray_inj this
  have h2 := congrArg (List.map UInt8.toNat) h1
  rw [List.map_map, List.map_map] at h2
  have key : ∀ l : List Nat, (∀ x ∈ l, x < 256) → l.map (UInt8.toNat ∘ fun c => UInt8.ofNat c) = l := by
    intro l hl
    conv => rhs; rw [← List.map_id l]
    apply List.map_congr_left
    intro x hx; simp; exact hl x hx
  rwa [key l hl, key m hm] at h2
theorem loop_eq (bs : ByteArray) (i : Nat) (r : List UInt8) : ByteArray.toList.loop bs i r = r.reverse ++ bs.data.toList.drop i := by
  unfold ByteArray.toList.loop
  split
  · rename_i h
    rw [loop_eq bs (i + 1)]
    have h2 : i < bs.data.toList.length := by simpa using h
    rw [List.drop_eq_getElem_cons h2]
    simp
    show bs.data[i]! = bs.data[i]
    have h3 : i < bs.data.size := h
    rw [getElem!_pos bs.data i h3]
  · rename_i h
    have : bs.data.toList.length ≤ i := by simpa using h
    rw [List.drop_eq_nil_of_le this]; simp
termination_by bs.size - i
theorem toList_eq (bs : ByteArray) : bs.toList = bs.data.toList := by
  unfold ByteArray.toList; rw [loop_eq]; simp
/-- Texts are the same just if their bytes are. -/
theorem strEq {l m : List Nat} (hl : ∀ x ∈ l, x < 256) (hm : ∀ x ∈ m, x < 256) : ((strOf l).toList == (strOf m).toList) = decide (l = m) := by
  by_cases h : l = m
  · subst h; simp
  · rw [decide_eq_false h, beq_eq_false_iff_ne]
    intro e
    apply h
    apply strOf_inj hl hm
    rw [toList_eq, toList_eq] at e
    have : (strOf l).data = (strOf m).data := Array.toList_inj.1 e
    cases hx : strOf l; cases hy : strOf m; rw [hx, hy] at this; simp at this; rw [this]
theorem conv_bytes {w : World} {a : Option Addr} {l : List Nat} (h : Byt w a l) (hb : ∀ x ∈ l, x < 256) (ha : a = none → l = []) (cap n : Nat) (hn : l.length = n) :
    (convert 23 9 (.slice a n cap)).run Try.prog w = .ok (.string (strOf l)) w := by
  subst hn
  cases a with
  | none =>
    have := ha rfl
    subst this
    exact Lib.run_convert_nil_bytes w 23 9 5 cap Try.underlying23 Try.underlying5 Try.underlying9
  | some x =>
    have h2 := run_convert_bytes_back (P := Try.prog) w 23 9 5 x cap (l.map fun c => UInt8.ofNat c) Try.underlying23 Try.underlying5 Try.underlying9 (fun j hj => by
      rcases h with rfl | ⟨b, off, hx, _, hc⟩
      · simp at hj
      · simp at hj
        rw [Option.some.inj hx, addr_add, hc j hj]; simp
        exact (Int.emod_eq_of_lt (by omega) (by have := hb l[j] (List.getElem_mem _); omega)).symm)
    rw [List.length_map] at h2
    exact h2
end Go.Proofs.Ythpcgdgahlcblaa.VA
