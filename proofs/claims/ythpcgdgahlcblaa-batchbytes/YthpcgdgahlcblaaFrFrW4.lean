/-
  What Frame answers.
-/
import Derived.Test.YthpcgdgahlcblaaFrFrW3
import Derived.Deep.RegionHeld3
namespace Go.Proofs.Ythpcgdgahlcblaa
open Go.RowKit

theorem own_zeros {w : World} {B n : Nat} (hB : B ≤ w.heap.size) (hn : n ≤ 1000) :
    (w.alloc (.cells (madeCells #[.int .u8 0] n) 5)).ownsRow B 5 1 (.slice (some ⟨w.heap.size, 0, none⟩) n n) n (u8s (List.replicate n 0)) := by
  refine ⟨by simp [u8s], .inr ⟨w.heap.size, n, _, rfl, hB, heap_alloc_new w _, Nat.le_refl _, by unfold maxLen; omega, by rw [size_madeCells]; omega, ?_⟩⟩
  apply List.ext_getElem?
  intro i
  by_cases hi : i < n
  · rw [List.getElem?_take, if_pos (by omega), Array.getElem?_toList, Array.getElem?_eq_getElem (by rw [size_madeCells]; exact hi)]
    simp [u8s, hi, madeCells, Nat.mod_one]
  · rw [List.getElem?_take, if_neg (by omega)]
    simp [u8s, hi]
theorem below_alloc {B : Nat} {w : World} (hB : B ≤ w.heap.size) (o : Obj) : Below B w (w.alloc o) := (Below.refl _ _).alloc hB _
def lenV : Value → Nat
  | .slice _ n _ => n
  | _ => 0
def newV : Value → Nat
  | .bool false => 1
  | _ => 0
theorem own_len {w : World} {B n : Nat} {v : Value} {l : List Nat} (h : w.ownsRow B 5 1 v n (u8s l)) : l.length = n := by
  have := h.1; simp [u8s] at this; omega
/-- A record's bytes, new, behind OK. -/
def FrameV (w : World) (L : List Nat) (e : Ending) (w' : World) : Prop := ∃ v, e = .returned (.tuple #[v, .int .i64 0]) ∧ w'.ownsRow w.heap.size 5 1 v L.length (u8s L) ∧ Below w.heap.size w w'
end Go.Proofs.Ythpcgdgahlcblaa
