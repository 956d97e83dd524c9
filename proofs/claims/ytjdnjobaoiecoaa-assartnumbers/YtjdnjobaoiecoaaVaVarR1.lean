/-
  What the document's own Get and Unfold answer; the law VarintGets, walked.
-/
import Derived.Test.YtjdnjobaoiecoaaVaVarL1
namespace Go.Proofs.Ytjdnjobaoiecoaa
open Go.RowKit

/-- A text's bytes. -/
def natsOf (t : ByteArray) : List Nat := t.data.toList.map UInt8.toNat
theorem natsOf_length (t : ByteArray) : (natsOf t).length = t.size := by simp [natsOf]
theorem natsOf_byte (t : ByteArray) : ∀ x ∈ natsOf t, x < 256 := by
  intro x hx; simp only [natsOf, List.mem_map] at hx; obtain ⟨c, _, rfl⟩ := hx; exact c.toNat_lt
theorem natsOf_get (t : ByteArray) (k : Nat) (hk : k < t.size) : (natsOf t)[k]'(by rw [natsOf_length]; exact hk) = (t[k]).toNat := by simp [natsOf]; rfl
theorem natsOf_strOf {l : List Nat} (h : ∀ x ∈ l, x < 256) : natsOf (strOf l) = l := by
  unfold natsOf strOf
  simp only [List.map_map]
  conv => rhs; rw [← List.map_id l]
  apply List.map_congr_left
  intro x hx; simp; exact h x hx
/-- What the first bytes make. -/
def accS (l : List Nat) : Nat → Nat
  | 0 => 0
  | k + 1 => accS l k + l.getD k 0 % 128 * 2 ^ (7 * k)
theorem accS_lt (l : List Nat) (k : Nat) : accS l k < 2 ^ (7 * k) := by
  induction k with
  | zero => simp [accS]
  | succ k ih =>
    have e : 2 ^ (7 * (k + 1)) = 128 * 2 ^ (7 * k) := by rw [Nat.mul_add, Nat.pow_add, Nat.mul_comm]
    have h1 : l.getD k 0 % 128 * 2 ^ (7 * k) ≤ 127 * 2 ^ (7 * k) := Nat.mul_le_mul_right _ (by omega)
    show accS l k + _ < _
    omega
theorem horner (l : List Nat) (n j K : Nat) (h : n * 2 ^ (7 * (j + 1)) + accS l (j + 1) = K) : (n * 128 + l.getD j 0 % 128) * 2 ^ (7 * j) + accS l j = K := by
  have e : 2 ^ (7 * (j + 1)) = 128 * 2 ^ (7 * j) := by rw [Nat.mul_add, Nat.pow_add, Nat.mul_comm]
  rw [← h, e]
  show _ = n * (128 * 2 ^ (7 * j)) + (accS l j + l.getD j 0 % 128 * 2 ^ (7 * j))
  rw [Nat.add_mul, Nat.mul_assoc]; omega

/-- What is told of a slice of integers that came in (as the shell of the proof has it). -/
def IsRow (k : IntKind) (w : World) (a : Option Addr) (len cap : Nat) (zs : List Int) : Prop :=
  (a = none ∧ len = 0 ∧ cap = 0 ∧ zs = []) ∨
  ∃ x, a = some x ∧ len ≤ cap ∧ cap ≤ maxLen ∧ zs.length = cap ∧ (∀ i, i < zs.length → w.cell? (x.add i) = some (.int k (zs.getD i 0))) ∧ ∀ n ∈ zs, (Lit.int k n).wf = true
theorem wf_u8 {a : Int} (h : (Lit.int .u8 a).wf = true) : 0 ≤ a ∧ a < 256 := by
  simp [Lit.wf, IntKind.min, IntKind.max, IntKind.signed, IntKind.bits] at h; omega
/-- Bytes that came in are bytes. -/
theorem IsRow.byt {w : World} {a : Option Addr} {len cap : Nat} {zs : List Int} (h : IsRow .u8 w a len cap zs) :
    ∃ l : List Nat, l.length = len ∧ Byt w a l ∧ (∀ x ∈ l, x < 256) ∧ len ≤ cap ∧ cap ≤ maxLen ∧ (a = none → l = []) := by
  rcases h with ⟨_, rfl, rfl, _⟩ | ⟨x, rfl, h1, h2, h3, h4, h5⟩
  · exact ⟨[], rfl, .inl rfl, by simp, Nat.le_refl _, by unfold maxLen; omega, fun _ => rfl⟩
  · refine ⟨(zs.take len).map Int.toNat, by simp; omega, ?_, ?_, h1, h2, fun h => by cases h⟩
    · by_cases h0 : len = 0
      · left; simp [h0]
      · right
        have hc0 := h4 0 (by omega)
        have hx : x.add 0 = x := by simp [Addr.add]
        rw [hx] at hc0
        obtain ⟨b, off, spot⟩ := x
        have hsp : spot = none := by
          cases spot with
          | none => rfl
          | some s => simp [World.cell?] at hc0; split at hc0 <;> simp at hc0
        subst hsp
        refine ⟨b, off, rfl, World.block_lt_of_cell? w _ hc0, fun i hi => ?_⟩
        simp at hi
        have := h4 i (by omega)
        rw [addr_add] at this
        rw [this]
        have hg : zs.getD i 0 = zs[i]'(by omega) := by rw [List.getD_eq_getElem?_getD, List.getElem?_eq_getElem (by omega)]; rfl
        have hw := wf_u8 (h5 (zs[i]'(by omega)) (List.getElem_mem _))
        rw [hg]; simp only [List.getElem_map, List.getElem_take]
        rw [Int.toNat_of_nonneg hw.1]
    · intro y hy
      simp only [List.mem_map] at hy
      obtain ⟨z, hz, rfl⟩ := hy
      have := wf_u8 (h5 z (List.mem_of_mem_take hz))
      omega

namespace varintGets
end varintGets
end Go.Proofs.Ytjdnjobaoiecoaa
