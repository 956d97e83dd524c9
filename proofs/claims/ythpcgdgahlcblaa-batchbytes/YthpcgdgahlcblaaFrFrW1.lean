/-
  What the small functions of frame answer: left, gap, Room, kindOf, follows, the masked sum, a piece that is laid.
-/
import Derived.Test.YthpcgdgahlcblaaFrFrVar
import Derived.Test.YthpcgdgahlcblaaFrFrCrc
namespace Go.Proofs.Ythpcgdgahlcblaa
open Go.RowKit

theorem left_in (n : Nat) : 1 ≤ Frm.left n ∧ Frm.left n ≤ 128 := by unfold Frm.left; omega
theorem gap_le (n : Nat) : Frm.gap n ≤ 6 := by unfold Frm.gap; split <;> omega
def Frm.kindN (b e : Bool) : Nat := if b = true then (if e = true then 4 else 3) else (if e = true then 1 else 2)
/-- Bytes in memory, as they are summed. -/
theorem Byt.cr {w : World} {a : Option Addr} {l : List Nat} (h : Byt w a l) (hb : ∀ x ∈ l, x < 256) : CR.Byt w a (bv l) := by
  rcases h with rfl | ⟨b, off, rfl, hlt, hc⟩
  · exact .inl rfl
  · refine .inr ⟨b, off, rfl, hlt, fun i hi => ?_⟩
    rw [bv_length] at hi
    rw [hc i hi]
    have := hb l[i] (List.getElem_mem _)
    simp [bv]; omega
end Go.Proofs.Ythpcgdgahlcblaa
