/-
  A row of changes made: all of its cells in one block of its own.
-/
import Derived.Test.YthpcgdgahlcblaaBatD5
namespace Go.Proofs.Ythpcgdgahlcblaa
open Go.RowKit

theorem info_op3 : (Try.prog.info? 48).map (fun i => (i.zero, i.size, i.bytes)) = some (some (.agg #[.int .i64 0, .string ⟨#[]⟩, .string ⟨#[]⟩]), 3, 40) := by kernel_rfl
theorem mk_ops (w : World) (z c : Nat) (hz : w.heap.size = z) (hc : c ≤ 200) :
    ∃ W1, (Instr.makeSlice 22 (.int .u64 (c : Int)) (.int .u64 (c : Int))).run Try.prog w = .ok (.slice (some ⟨z, 0, none⟩) c c) W1 ∧ (0 < c → ∃ cur : Array Value, W1.heap[z]? = some (.cells cur 48 (0, 0)) ∧ cur.size = c * 3) ∧ Below z w W1 := by
  subst hz
  obtain ⟨i0, hi0, hz0, hz1, hz2⟩ := info_parts info_op3
  obtain ⟨W1, h1, h2, h3⟩ := run_make_full (P := Try.prog) (w := w) w.heap.size 22 48 i0 _ 3 Try.underlying22 hi0 hz0 hz1 .u64 .u64 c (by rw [hz2]; omega) (by unfold maxLen; omega) (Nat.le_refl _)
  refine ⟨W1, h1, fun h0 => ?_, (Below.refl _ w).grown h3 (Nat.le_refl _) (by simp)⟩
  rcases h2.2 with ⟨he, h0'⟩ | ⟨g, cap', cur, he, hB, hg, k1, k2, k3, k4⟩
  · omega
  · cases he
    exact ⟨cur, hg, k3⟩
end Go.Proofs.Ythpcgdgahlcblaa
