/-
  What Scan answers.
-/
import Derived.Test.YthpcgdgahlcblaaFrFrW4
namespace Go.Proofs.Ythpcgdgahlcblaa
open Go.RowKit

theorem Try.info9 : (Try.prog.info? 9).map (fun i => (i.zero, i.size, i.bytes)) = some (some (.string ByteArray.empty), 1, 16) := by kernel_rfl
def strV (l : List ByteArray) : List Value := l.map fun s => Value.string s
theorem own_stay {w w' : World} {B n : Nat} {e : TypeId} {v : Value} {xs : List Value} (h : w.ownsRow B e 1 v n xs) (hk : ∀ q, v.ownBlock = some q → w'.heap[q]? = w.heap[q]?) : w'.ownsRow B e 1 v n xs := by
  refine ⟨h.1, ?_⟩
  rcases h.2 with h2 | ⟨g, cap, cur, h1, h2, h3, h4⟩
  · exact .inl h2
  · refine .inr ⟨g, cap, cur, h1, h2, ?_, h4⟩
    rw [hk g (by rw [h1]; rfl)]; exact h3
theorem own_ltE {w : World} {B n q : Nat} {e : TypeId} {v : Value} {xs : List Value} (h : w.ownsRow B e 1 v n xs) (hq : v.ownBlock = some q) : q < w.heap.size := (h.lt q hq).2
/-- A row of one's own, cut to nothing. -/
theorem own_cut {w : World} {B n : Nat} {v : Value} {xs : List Value} (h : w.ownsRow B 5 1 v n xs) : ∃ v0, (∀ wx : World, (Instr.slice 23 v none (some (.int .i64 0)) none).run Try.prog wx = .ok v0 wx) ∧ w.ownsRow B 5 1 v0 0 [] ∧ v0.ownBlock = v.ownBlock := by
  rcases h.2 with ⟨rfl, h0⟩ | ⟨g, cap, cur, rfl, h1, h2, h3, h4, h5, h6⟩
  · refine ⟨.slice none 0 0, fun wx => ?_, World.ownsRow_nil _ _ _ _, rfl⟩
    have := run_part_to (w := wx) (a := none) 0 0 0 (Nat.le_refl _)
    exact this
  · refine ⟨.slice (some ⟨g, 0, none⟩) 0 cap, fun wx => ?_, ⟨rfl, .inr ⟨g, cap, cur, rfl, h1, h2, Nat.zero_le _, h4, h5, by simp⟩⟩, rfl⟩
    have := run_part_to (w := wx) (a := some ⟨g, 0, none⟩) n cap 0 (Nat.zero_le _)
    have e : part (some ⟨g, 0, none⟩) cap 0 = some ⟨g, 0, none⟩ := by unfold part; split <;> simp [addr_add]
    rw [e] at this; exact this
def Apart (v u : Value) : Prop := ∀ q, v.ownBlock = some q → u.ownBlock ≠ some q
/-- What is scanned: texts of one's own, and a number. -/
def ScanV (w : World) (S : List (List Nat) × Nat) (e : Ending) (w' : World) : Prop := ∃ v, e = .returned (.tuple #[v, .int .i64 (S.2 : Int)]) ∧ w'.ownsRow w.heap.size 9 1 v S.1.length (strV (S.1.map strOf)) ∧ Below w.heap.size w w'
theorem follows_cases {k : Nat} {b : Bool} (h : Frm.follows k b = true) : (b = false ∧ (k = 1 ∨ k = 2)) ∨ (b = true ∧ (k = 3 ∨ k = 4)) := by
  unfold Frm.follows at h
  split at h
  · left; rename_i h1; exact ⟨by simpa using h, h1⟩
  · split at h
    · right; rename_i h1; exact ⟨h, h1⟩
    · cases h
end Go.Proofs.Ythpcgdgahlcblaa
