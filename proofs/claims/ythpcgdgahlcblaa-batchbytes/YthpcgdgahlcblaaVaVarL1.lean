/-
  The laws VarintOrders and VarintFolds, walked.
-/
import Derived.Test.YthpcgdgahlcblaaVaVarW2
namespace Go.Proofs.Ythpcgdgahlcblaa.VA
open Go.RowKit

theorem wf_u64 {a : Int} (h : (Lit.int .u64 a).wf = true) : ∃ n : Nat, a = n ∧ n < 18446744073709551616 := by
  simp [Lit.wf, IntKind.min, IntKind.max, IntKind.signed, IntKind.bits] at h
  exact ⟨a.toNat, by omega, by omega⟩
theorem wf_i64 {a : Int} (h : (Lit.int .i64 a).wf = true) : -9223372036854775808 ≤ a ∧ a ≤ 9223372036854775807 := by
  simp [Lit.wf, IntKind.min, IntKind.max, IntKind.signed, IntKind.bits] at h; omega
/-- New bytes, as a slice and as a text. -/
theorem FreshU.open {w w' : World} {l : List Nat} {e : Ending} (h : FreshU w l e w') (hb : ∀ x ∈ l, x < 256) :
    ∃ a cap, e = .returned (.slice a l.length cap) ∧ Below w.heap.size w w' ∧ l.length ≤ cap ∧ Byt w' a l ∧ ∀ wx, Below w'.heap.size w' wx → (convert 23 9 (.slice a l.length cap)).run Try.prog wx = .ok (.string (strOf l)) wx := by
  obtain ⟨v, rfl, hown, hbl⟩ := h
  obtain ⟨a, cap, rfl, hB, hn, hc⟩ := byt_of_own hown
  exact ⟨a, cap, rfl, hbl, hc, hB, fun wx hx => conv_bytes (hB.keep hx) hb hn cap _ rfl⟩
theorem decide_beq {p : Prop} [Decidable p] {x y : Int} (h : p ↔ x = y) : decide p = (x == y) := by
  by_cases e : x = y
  · rw [decide_eq_true (h.2 e)]; simp [e]
  · rw [decide_eq_false (fun k => e (h.1 k))]; simp [e]

namespace varintOrders
end varintOrders
namespace varintFolds
end varintFolds
end Go.Proofs.Ythpcgdgahlcblaa.VA
