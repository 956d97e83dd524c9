/-
  A piece that is read.
-/
import Derived.Test.YthpcgdgahlcblaaFrFrW2
namespace Go.Proofs.Ythpcgdgahlcblaa
open Go.RowKit

theorem run_part_from {w : World} {a : Option Addr} (len cap p : Nat) (z : Int) (hz : z = p) (hp : p ≤ len) (_hl : len ≤ cap) :
    (Instr.slice 23 (.slice a len cap) (some (.int .i64 z)) none none).run Try.prog w = .ok (.slice (part a cap p) (len - p) (cap - p)) w := by
  subst hz
  have hel : Try.prog.elem 23 = 5 := by kernel_rfl
  rw [run_slice_l (P := Try.prog) w 23 a len cap (by rw [hel]; exact Try.underlying23) .i64 p (by omega) (by omega), hel]
  simp [go_sem, sliced, part]
theorem run_part_u {w : World} {a : Option Addr} (len cap q : Nat) (hq : q ≤ cap) :
    (Instr.slice 23 (.slice a len cap) none (some (.int .u64 (q : Int))) none).run Try.prog w = .ok (.slice (part a cap 0) q cap) w := by
  have hel : Try.prog.elem 23 = 5 := by kernel_rfl
  rw [run_slice_h (P := Try.prog) w 23 a len cap (by rw [hel]; exact Try.underlying23) .u64 q (by omega) (by omega), hel]
  simp [go_sem, sliced, part]
theorem BytB.part_zero {B : Nat} {w : World} {a : Option Addr} {l : List Nat} (h : BytB B w a l) (cap : Nat) : BytB B w (Ythpcgdgahlcblaa.part a cap 0) l := by
  rcases h with h | ⟨b, off, rfl, hlt, hc⟩
  · exact .inl h
  · refine .inr ⟨b, off, ?_, hlt, hc⟩
    unfold Ythpcgdgahlcblaa.part; split
    · rfl
    · simp [addr_add]
theorem part_some {a : Option Addr} {cap p : Nat} (h : a ≠ none) : part a cap p ≠ none := fun e => h (part_none e)
/-- What piece tells. -/
def PieceV (B : Nat) (o : Option (Nat × List Nat)) (e : Ending) (w' : World) : Prop :=
  ∃ (k : Nat) (a : Option Addr) (m cap : Nat) (ok : Bool), e = .returned (.tuple #[.int .u8 (k : Int), .slice a m cap, .bool ok]) ∧
    ((o = none ∧ ok = false) ∨ ∃ p, o = some (k, p) ∧ ok = true ∧ m = p.length ∧ BytB B w' a p ∧ a ≠ none)
end Go.Proofs.Ythpcgdgahlcblaa
