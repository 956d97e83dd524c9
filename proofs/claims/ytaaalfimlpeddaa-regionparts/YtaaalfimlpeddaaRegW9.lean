/-
  What New of package region does.
-/
import Derived.Test.YtaaalfimlpeddaaRegW8
import Derived.BigRegion
namespace Go.Proofs.Ytaaalfimlpeddaa
open Go.RowKit

def areas0 : Array Value := ((List.range 256).flatMap fun _ => [Value.bool false, .int .i64 0, .slice none 0 0, .int .i64 0]).toArray
def pool0 : Array Value := #[.int .i64 0, .slice none 0 0, .slice none 0 0] ++ areas0

theorem run_zeroPool (w : World) : (zeroValue 78).run Try.prog w = .ok (.agg pool0) w := by kernel_rfl
theorem pool0_size : pool0.size = 1027 := by decide +kernel
theorem zeroPool : ∃ z0 : Array Value, (∀ w, (zeroValue 78).run Try.prog w = .ok (.agg z0) w) ∧ z0.size = 1027 ∧ ¬ (z0 = #[]) ∧
    ∀ i, i < 1027 → 3 ≤ i → z0[i]? = some (if (i - 3) % 4 = 0 then .bool false else if (i - 3) % 4 = 1 then .int .i64 0 else if (i - 3) % 4 = 2 then .slice none 0 0 else .int .i64 0) := by
  refine ⟨pool0, run_zeroPool, pool0_size, (fun h => by have := pool0_size; rw [h] at this; cases this), ?_⟩
  intro i hi h3
  unfold pool0
  rw [Array.getElem?_append_right (by simpa using h3)]
  have h : ∀ k : Fin 1024, areas0[k.val]? = some (if k.val % 4 = 0 then .bool false else if k.val % 4 = 1 then .int .i64 0 else if k.val % 4 = 2 then .slice none 0 0 else .int .i64 0) := by
    intro ⟨k, hk⟩
    simp only [areas0, List.getElem?_toArray]
    have hl : ∀ (n k : Nat), k < 4 * n → ∀ m, ((List.range' m n).flatMap fun _ => [Value.bool false, .int .i64 0, .slice none 0 0, .int .i64 0])[k]? = some (if k % 4 = 0 then .bool false else if k % 4 = 1 then .int .i64 0 else if k % 4 = 2 then .slice none 0 0 else .int .i64 0) := by
      intro n
      induction n with
      | zero => intro k hk; omega
      | succ n ih =>
        intro k hk m
        rw [List.range'_succ, List.flatMap_cons]
        by_cases hk4 : k < 4
        · rw [List.getElem?_append_left (by simpa using hk4)]
          match k, hk4 with
          | 0, _ => rfl
          | 1, _ => rfl
          | 2, _ => rfl
          | 3, _ => rfl
        · rw [List.getElem?_append_right (by simp; omega)]
          have := ih (k - 4) (by omega) (m + 1)
          simp only [List.length_cons, List.length_nil]
          rw [show k - (0 + 1 + 1 + 1 + 1) = k - 4 from rfl, this]
          rw [show (k - 4) % 4 = k % 4 from by omega]
    rw [List.range_eq_range']
    exact hl 256 k (by omega) 0
  exact h ⟨i - 3, by omega⟩

/-- A new pool. -/
def Ps.new (s n pb bb tb : Nat) : Ps :=
  { pb := pb, bb := bb, tb := tb, size := s, n := n, live := fun _ => false, gen := fun _ => 0, fill := fun _ => 0, sl := fun _ => [], sv := fun _ => .slice none 0 0, bt := fun _ => 0, tk := fun _ => false }

theorem PoolAt.fresh {W : World} {s n pb bb tb : Nat} (hP : W.rowIs pb 78 1027 (Ps.new s n pb bb tb).pc) (hB : W.rowIs bb 5 (s * n) (fun _ => .int .u8 0)) (hT : W.rowIs tb 4 n (fun _ => .bool false))
    (n1 : pb ≠ bb) (n2 : pb ≠ tb) (n3 : bb ≠ tb) : PoolAt W (Ps.new s n pb bb tb) (fun k => k = pb ∨ k = bb ∨ k = tb) :=
  ⟨hP, hB, hT, fun _ _ => World.ownsRow_nil _ _ _ _, n1, n2, n3, fun i _ g hg => by simp [Ps.new, Value.ownBlock] at hg, fun i j _ _ _ g hg => by simp [Ps.new, Value.ownBlock] at hg, .inl rfl, .inr (.inl rfl), .inr (.inr rfl),
   fun g hg => by rcases hg with rfl | rfl | rfl; exact hP.lt; exact hB.lt; exact hT.lt⟩

theorem pool_cells {z0 : Array Value} (k4 : z0.size = 1027) (k6 : ∀ i, i < 1027 → 3 ≤ i → z0[i]? = some (if (i - 3) % 4 = 0 then .bool false else if (i - 3) % 4 = 1 then .int .i64 0 else if (i - 3) % 4 = 2 then .slice none 0 0 else .int .i64 0))
    (s n N pb bb tb : Nat) (hN : N = s * n) (i : Nat) (hi : i < (((z0.setIfInBounds 0 (.int .i64 (s : Int))).setIfInBounds 1 (.slice (some ⟨bb, 0, none⟩) N N)).setIfInBounds 2 (.slice (some ⟨tb, 0, none⟩) n n)).size) :
    (((z0.setIfInBounds 0 (.int .i64 (s : Int))).setIfInBounds 1 (.slice (some ⟨bb, 0, none⟩) N N)).setIfInBounds 2 (.slice (some ⟨tb, 0, none⟩) n n))[i]? = some ((Ps.new s n pb bb tb).pc i) := by
  subst hN
  simp only [Array.size_setIfInBounds, k4] at hi
  by_cases h2 : i = 2
  · subst h2; simp [k4]; rfl
  · by_cases h1 : i = 1
    · subst h1; simp [k4]; rfl
    · by_cases h0 : i = 0
      · subst h0; simp [k4]; rfl
      · rw [Array.getElem?_setIfInBounds_ne (by omega), Array.getElem?_setIfInBounds_ne (by omega), Array.getElem?_setIfInBounds_ne (by omega), k6 i hi (by omega)]
        unfold Ps.pc
        rw [if_neg h0, if_neg h1, if_neg h2]
        rfl

theorem new_at1 {z0 : Array Value} (k4 : z0.size = 1027) (k6 : ∀ i, i < 1027 → 3 ≤ i → z0[i]? = some (if (i - 3) % 4 = 0 then .bool false else if (i - 3) % 4 = 1 then .int .i64 0 else if (i - 3) % 4 = 2 then .slice none 0 0 else .int .i64 0))
    (w : World) (s n N : Nat) (hN : N = s * n) :
    PoolAt (((w.alloc (.cells (madeCells #[.int .u8 0] N) 5)).alloc (.cells (madeCells #[.bool false] n) 4)).alloc
      (.cells (((z0.setIfInBounds 0 (.int .i64 (s : Int))).setIfInBounds 1 (.slice (some ⟨w.heap.size, 0, none⟩) N N)).setIfInBounds 2 (.slice (some ⟨w.heap.size + 1, 0, none⟩) n n)) 78)).drew
      (Ps.new s n (w.heap.size + 1 + 1) w.heap.size (w.heap.size + 1)) (fun k => k = w.heap.size + 1 + 1 ∨ k = w.heap.size ∨ k = w.heap.size + 1) := by
  refine PoolAt.fresh ?_ ?_ ?_ (by omega) (by omega) (by omega)
  · have h := World.rowIs_alloc ((w.alloc (.cells (madeCells #[.int .u8 0] N) 5)).alloc (.cells (madeCells #[.bool false] n) 4)) _ 78 _ (fun i hi => pool_cells k4 k6 s n N (w.heap.size + 1 + 1) w.heap.size (w.heap.size + 1) hN i hi)
    simp only [Array.size_setIfInBounds, k4, World.size_alloc] at h
    exact h.drew
  · rw [← hN]; exact (((World.rowIs_made w (.int .u8 0) N 5).alloc _).alloc _).drew
  · have h := (World.rowIs_made (w.alloc (.cells (madeCells #[.int .u8 0] N) 5)) (.bool false) n 4)
    simp only [World.size_alloc] at h
    exact (h.alloc _).drew

theorem new_at2 {z0 : Array Value} (k4 : z0.size = 1027) (k6 : ∀ i, i < 1027 → 3 ≤ i → z0[i]? = some (if (i - 3) % 4 = 0 then .bool false else if (i - 3) % 4 = 1 then .int .i64 0 else if (i - 3) % 4 = 2 then .slice none 0 0 else .int .i64 0))
    (w : World) (s n N : Nat) (hN : N = s * n) :
    PoolAt (((w.alloc (.cells (madeCells #[.bool false] n) 4)).alloc (.cells (madeCells #[.int .u8 0] N) 5)).alloc
      (.cells (((z0.setIfInBounds 0 (.int .i64 (s : Int))).setIfInBounds 1 (.slice (some ⟨w.heap.size + 1, 0, none⟩) N N)).setIfInBounds 2 (.slice (some ⟨w.heap.size, 0, none⟩) n n)) 78)).drew
      (Ps.new s n (w.heap.size + 1 + 1) (w.heap.size + 1) w.heap.size) (fun k => k = w.heap.size + 1 + 1 ∨ k = w.heap.size + 1 ∨ k = w.heap.size) := by
  refine PoolAt.fresh ?_ ?_ ?_ (by omega) (by omega) (by omega)
  · have h := World.rowIs_alloc ((w.alloc (.cells (madeCells #[.bool false] n) 4)).alloc (.cells (madeCells #[.int .u8 0] N) 5)) _ 78 _ (fun i hi => pool_cells k4 k6 s n N (w.heap.size + 1 + 1) (w.heap.size + 1) w.heap.size hN i hi)
    simp only [Array.size_setIfInBounds, k4, World.size_alloc] at h
    exact h.drew
  · have h := (World.rowIs_made (w.alloc (.cells (madeCells #[.bool false] n) 4)) (.int .u8 0) N 5)
    simp only [World.size_alloc] at h
    rw [← hN]; exact (h.alloc _).drew
  · exact (((World.rowIs_made w (.bool false) n 4).alloc _).alloc _).drew

set_option maxRecDepth 100000 in
set_option maxHeartbeats 800000 in
theorem new_ok (s n N : Nat) (w : World) (h1 : 64 ≤ s) (h2 : s ≤ 65536) (h3 : s % 8 = 0) (h4 : 1 ≤ n) (h5 : n ≤ 4096) (hN : N = s * n) (h6 : N ≤ 4194304) :
    Calls Try.prog 11 #[.int .i64 s, .int .i64 n] w fun e w' => ∃ pb bb tb, e = .returned (.tuple #[.pointer (some ⟨pb, 0, none⟩), .int .i64 0]) ∧
      PoolAt w' (Ps.new s n pb bb tb) (fun k => k = pb ∨ k = bb ∨ k = tb) ∧ w.heap.size ≤ pb ∧ w.heap.size ≤ bb ∧ w.heap.size ≤ tb ∧ Grew w w' := by
  have hm2 : ((s : Int) % 8 != 0) = false := by simp; omega
  have e7 : wrap64 ((s : Int) * n) = (N : Int) := by
    rw [show (s : Int) * n = (N : Int) from by rw [hN]; push_cast; rfl]; unfold wrap64; omega
  have e8 : IntKind.i64.wrap ((s : Int) * n) = (N : Int) := by
    rw [show (s : Int) * n = (N : Int) from by rw [hN]; push_cast; rfl]; exact IntWalk.i64_in _ (by omega)
  have k1 := run_make_row' (P := Try.prog) 49 5 (.int .u8 0) 1 Try.underlying49 Try.info5 rfl .i64 .i64 N (by omega) (by omega)
  have k2 := run_make_row' (P := Try.prog) 76 4 (.bool false) 1 Try.underlying76 (by kernel_rfl) rfl .i64 .i64 n (by omega) (by omega)
  obtain ⟨z0, k3, k4, k5, k6⟩ := zeroPool
  have K6 := Lib.hid k6
  clear k6
  have HN := Lib.hid hN
  clear hN
  go_enter Try.func11, Try.ntmps11
  go_wp2
  go_region
  · go_wp2
    go_ret2
    exact ⟨_, _, _, rfl, new_at1 k4 K6.out w s n N HN.out, by omega, by omega, by omega, ((((Below.refl _ _).alloc (Nat.le_refl _) _).alloc (by simp) _).alloc (by simp; omega) _).drew⟩
  · go_wp2
    go_ret2
    exact ⟨_, _, _, rfl, new_at2 k4 K6.out w s n N HN.out, by omega, by omega, by omega, ((((Below.refl _ _).alloc (Nat.le_refl _) _).alloc (by simp) _).alloc (by simp; omega) _).drew⟩
end Go.Proofs.Ytaaalfimlpeddaa
