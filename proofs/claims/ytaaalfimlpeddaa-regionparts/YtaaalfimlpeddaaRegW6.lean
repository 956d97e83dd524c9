/-
  What piece of package region does where the handle is good, said of a pool that lies in memory.
-/
import Derived.Test.YtaaalfimlpeddaaRegW5
namespace Go.Proofs.Ytaaalfimlpeddaa
open Go.RowKit

theorem wp_gen {P : Program} {c : Code} {Q : Exit → Act → World → Prop} {a : Act} {w0 : World} (q : World → Prop) (h0 : q w0) (h : ∀ W, q W → c.wp P Q a W) : c.wp P Q a w0 := h w0 h0

/-- The slab list of a region that has slabs, cell by cell. -/
theorem PoolAt.svCell {w : World} {S : Ps} {F : Nat → Prop} (h : PoolAt w S F) {i q : Nat} (hi : i < 256) (hq : q < (S.sl i).length) :
    ∃ g cap, S.sv i = .slice (some ⟨g, 0, none⟩) (S.sl i).length cap ∧ w.cell? ⟨g, q, none⟩ = some (.int .i64 ((S.sl i).getD q 0 : Nat)) ∧ g < w.heap.size := by
  rcases (h.hR i hi).2 with ⟨e, h0⟩ | ⟨g, cap, cur, hv, hb, hg, _, _, _, ht⟩
  · omega
  · refine ⟨g, cap, hv, ?_, h.fl g (h.n4 i hi g (by rw [hv]; rfl)).2.2.2⟩
    rw [cell_of_row w g q cur 3 (0, 0) hg]
    have h1 : (cur.toList.take ((S.sl i).length * 1))[q]? = some (.int .i64 ((S.sl i).getD q 0 : Nat)) := by
      rw [ht, List.getElem?_map, List.getElem?_eq_getElem hq, List.getD_eq_getElem?_getD, List.getElem?_eq_getElem hq]; rfl
    rw [List.getElem?_take] at h1
    split at h1
    · simpa using h1
    · cases h1

set_option maxRecDepth 100000 in
set_option maxHeartbeats 1600000 in
theorem piece_ok {w : World} {S : Ps} {F : Nat → Prop} (hS : PoolAt w S F) (i o l R Q j m : Nat) (hi : i < 256) (hr : S.live i = true) (hfl : S.fill i ≤ 4194304) (hs : 64 ≤ S.size) (hs2 : S.size ≤ 65536) (hN : S.size * S.n ≤ 4194304)
    (h1 : 1 ≤ l) (h2 : o + l ≤ S.fill i) (hR : R = o % S.size) (hok : R + l ≤ S.size) (hQ : Q = o / S.size) (hQ2 : Q < (S.sl i).length) (hj : j = (S.sl i).getD Q 0) (hj2 : j < S.n) (hm : m = j * S.size) :
    Calls Try.prog 39 #[.pointer (some ⟨S.pb, 0, none⟩), Hv i (S.gen i) o l] w fun e w' => e = .returned (.tuple #[.slice (some ⟨S.bb, m + R, none⟩) l (S.size * S.n - m - R), .int .i64 0]) ∧ Grew w w' := by
  have hf := find_in (hS.alloc (.cells #[.int .i64 i, .int .i64 (S.gen i), .int .i64 (o : Int), .int .i64 (l : Int)] 41)) hi
  rw [hr] at hf
  have HF := Lib.hid hf
  have c0 := hS.c0
  have cg := hS.cg hi
  have cf := hS.cf hi
  have hlt : S.pb < w.heap.size := hS.fl _ hS.fp
  have hne : ((S.gen i : Int) != (S.gen i : Int)) = false := by simp
  have HS := Lib.hid hS
  clear hf hS hr
  have hmN : m + S.size ≤ S.size * S.n := by
    have : (j + 1) * S.size ≤ S.n * S.size := Nat.mul_le_mul_right _ hj2
    rw [Nat.add_mul, Nat.one_mul, Nat.mul_comm S.n] at this; omega
  have d1 : decide ((l : Int) < 1) = false := by simp; omega
  have d2 : decide ((o : Int) < 0) = false := by simp
  have d3 : decide ((S.fill i : Int) - (l : Int) < (o : Int)) = false := by simp; omega
  have e3 : IntKind.i64.wrap ((S.fill i : Int) - (l : Int)) = (S.fill i : Int) - l := IntWalk.i64_in _ (by omega)
  have hR2 : R < S.size := by rw [hR]; exact Nat.mod_lt _ (by omega)
  have e4 : (o : Int).tmod (S.size : Int) = (R : Int) := by rw [hR, Int.tmod_eq_emod_of_nonneg (by omega)]; exact (Int.natCast_emod _ _).symm
  have hQ3 : Q ≤ o := by rw [hQ]; exact Nat.div_le_self _ _
  have e8 : IntKind.i64.wrap ((o : Int) / (S.size : Int)) = (Q : Int) := by
    have h : (o : Int) / (S.size : Int) = (Q : Int) := by rw [hQ]; exact (Int.natCast_ediv _ _).symm
    rw [h]; exact IntWalk.i64_in _ (by omega)
  have e5 : IntKind.i64.wrap ((R : Int) + (l : Int)) = (R : Int) + l := IntWalk.i64_in _ (by omega)
  have d6 : decide ((S.size : Int) < (R : Int) + (l : Int)) = false := by simp; omega
  have n0 : ((S.size : Int) == 0) = false := by simp; omega
  have n0a : ¬ ((S.size : Int) = 0) := by omega
  have n0b : ¬ (S.size = 0) := by omega
  have Hm := Lib.hid hm
  have Hj := Lib.hid hj
  clear hR hQ hm hj
  go_enter Try.func39, Try.ntmps39
  go_wp2_with fail
  refine HF.out.mono ?_
  rintro e w1 ⟨rfl, rfl⟩
  go_wp2_with fail
  go_quiet (fail)
  go_wp2
  go_quiet (fail)
  go_wp2
  go_quiet (fail)
  go_wp2
  go_quiet (fail)
  go_wp2
  refine wp_gen (fun W => PoolAt W S F ∧ W.cell? ⟨w.heap.size, 2, none⟩ = some (.int .i64 o) ∧ W.cell? ⟨w.heap.size, 3, none⟩ = some (.int .i64 l) ∧ Grew w W) ⟨((((HS.out.alloc _).drewN _).drewN _).drewN _).drewN _, by simp, by simp, ((((Grew.alloc _ _).drewN _).drewN _).drewN _).drewN _⟩ ?_
  intro W ⟨hS, k2, k3, hgr⟩
  obtain ⟨sg, scap, hsv, hsc, hsl⟩ := hS.svCell hi hQ2
  have cs := hS.cs hi
  rw [hsv] at cs
  rw [← Hj.out] at hsc
  have c0 := hS.c0
  have c1 := hS.c1
  have hs1 : 1 ≤ S.size := by omega
  have HG := Lib.hid hgr
  have hl0 : 0 < (S.sl i).length := by omega
  have hb1 : ¬ (S.size * S.n - m = R) := by omega
  clear hsv hS hgr
  go_quiet ((go_at_call 32; exact Calls.quiet_of (slab_any0 _ S.pb S.bb (S.size * S.n) S.size j m (by exact c0) (by exact c1) Hm.out hmN hN hs1)))
  go_wp2
  go_ret2
  exact ⟨by simp, HG.out.drewN _⟩
end Go.Proofs.Ytaaalfimlpeddaa
