/-
  A change stored at its place in a row of one's own.
-/
import Derived.Test.YthpcgdgahlcblaaBatD4
namespace Go.Proofs.Ythpcgdgahlcblaa
open Go.RowKit

/-- The three cells of a change in a row of one's own, stored one by one. -/
theorem set3at {W2 : World} {z j : Nat} {cur : Array Value} (hrow : W2.heap[z]? = some (.cells cur 48 (0, 0))) (hj : j + 2 < cur.size) (y0 y1 y2 : Value) :
    ∃ A1 A2 W3 x0 x1 x2, W2.setCell ⟨z, j, none⟩ y0 = A1 ∧ A1.setCell ⟨z, j + 1, none⟩ y1 = A2 ∧ A2.setCell ⟨z, j + 2, none⟩ y2 = W3 ∧ W2.cell? ⟨z, j, none⟩ = some x0 ∧ W2.frozen? ⟨z, j, none⟩ = false ∧ A1.cell? ⟨z, j + 1, none⟩ = some x1 ∧ A1.frozen? ⟨z, j + 1, none⟩ = false ∧ A2.cell? ⟨z, j + 2, none⟩ = some x2 ∧ A2.frozen? ⟨z, j + 2, none⟩ = false ∧
      W3.heap[z]? = some (.cells (((cur.setIfInBounds j y0).setIfInBounds (j + 1) y1).setIfInBounds (j + 2) y2) 48 (0, 0)) ∧ Below z W2 W3 := by
  have h1 := Go.Joins.block_setCell (i := j) hrow y0
  have h2 := Go.Joins.block_setCell (i := j + 1) h1 y1
  have h3 := Go.Joins.block_setCell (i := j + 2) h2 y2
  refine ⟨_, _, _, cur[j], (cur.setIfInBounds j y0)[j + 1]'(by simp; omega), ((cur.setIfInBounds j y0).setIfInBounds (j + 1) y1)[j + 2]'(by simp; omega), rfl, rfl, rfl, ?_⟩
  exact ⟨by rw [cell_of_row _ _ _ _ _ _ hrow]; exact Array.getElem?_eq_getElem _, by simp [World.frozen?, hrow], by rw [cell_of_row _ _ _ _ _ _ h1]; exact Array.getElem?_eq_getElem _, by simp [World.frozen?, h1], by rw [cell_of_row _ _ _ _ _ _ h2]; exact Array.getElem?_eq_getElem _, by simp [World.frozen?, h2],
    h3, (((Below.refl z W2).setCell (Nat.le_refl _) _).setCell (Nat.le_refl _) _).setCell (Nat.le_refl _) _⟩
end Go.Proofs.Ythpcgdgahlcblaa
