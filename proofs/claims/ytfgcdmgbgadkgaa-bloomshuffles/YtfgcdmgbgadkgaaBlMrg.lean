/-
  Filters that are merged, without the program; a part of some texts.
-/
import Derived.Test.YtfgcdmgbgadkgaaBlSizes
namespace Go.Proofs.Ytfgcdmgbgadkgaa
open Go.RowKit

theorem mergeL_getD (x y : List Nat) (j : Nat) (hj : j < x.length) : (mergeL x y).getD j 0 = orTo x y (x.length - 1) j := by
  rw [List.getD_eq_getElem?_getD]; simp [mergeL, hj]
theorem merge_last (x y : List Nat) (h : 0 < x.length) : (mergeL x y).getD ((mergeL x y).length - 1) 0 = x.getD (x.length - 1) 0 := by
  rw [mergeL_length, mergeL_getD x y _ (by omega)]
  unfold orTo; rw [if_neg (by omega)]
theorem merge_form (x y : List Nat) (h : formB x = true) : formB (mergeL x y) = true := by
  have k : 2 ≤ x.length ∧ 1 ≤ x.getD (x.length - 1) 0 ∧ x.getD (x.length - 1) 0 ≤ 30 := of_decide_eq_true h
  unfold formB
  rw [merge_last x y (by omega), mergeL_length]
  exact decide_eq_true k
theorem merge_bit (x y : List Nat) (m : Nat) (hm : m < 8 * (x.length - 1)) : bitL (mergeL x y) m = (bitL x m || bitL y m) := by
  unfold bitL
  rw [mergeL_getD x y _ (by omega)]
  unfold orTo
  rw [if_pos (by omega), Nat.testBit_or]
theorem may_merge (x y : List Nat) (h : Nat) (hx : formB x = true) (hy : formB y = true) (hl : x.length = y.length) (hc : x.getD (x.length - 1) 0 = y.getD (y.length - 1) 0) (hm : mayB x h = true ∨ mayB y h = true) : mayB (mergeL x y) h = true := by
  have k : 2 ≤ x.length ∧ 1 ≤ x.getD (x.length - 1) 0 ∧ x.getD (x.length - 1) 0 ≤ 30 := of_decide_eq_true hx
  unfold mayB at hm ⊢
  rw [merge_form x y hx, merge_last x y (by omega), mergeL_length, Bool.not_true, Bool.false_or, List.all_eq_true]
  rw [hx, hy, Bool.not_true, Bool.false_or, Bool.false_or, List.all_eq_true, List.all_eq_true, ← hc, ← hl] at hm
  intro p hp
  have hpl : p < 8 * (x.length - 1) := by
    unfold probesOf at hp
    obtain ⟨i, _, rfl⟩ := List.mem_map.1 hp
    exact probeN_lt _ _ _ (by omega)
  rw [merge_bit x y p hpl]
  rcases hm with hm | hm
  · rw [hm p hp, Bool.true_or]
  · rw [hm p hp, Bool.or_true]
theorem merge_comm (x y : List Nat) (hl : x.length = y.length) (hc : x.getD (x.length - 1) 0 = y.getD (y.length - 1) 0) : mergeL x y = mergeL y x := by
  unfold mergeL
  rw [← hl]
  apply List.map_congr_left
  intro j hj
  have hj' := List.mem_range.1 hj
  unfold orTo
  by_cases h : j < x.length - 1
  · rw [if_pos h, if_pos h, Nat.or_comm]
  · rw [if_neg h, if_neg h]
    obtain rfl : j = x.length - 1 := by omega
    rw [hc, hl]
theorem merge_self (x : List Nat) : mergeL x x = x := by
  apply List.ext_getElem
  · exact mergeL_length x x
  · intro i h1 h2
    have : (mergeL x x).getD i 0 = x.getD i 0 := by
      rw [mergeL_getD x x i h2]; unfold orTo; split
      · exact Nat.or_self _
      · rfl
    rw [getD_at h1, getD_at h2] at this
    exact this
theorem merge_ok {x y : List Nat} (hx : formB x = true) (hy : formB y = true) (hl : x.length = y.length) (hc : x.getD (x.length - 1) 0 = y.getD (y.length - 1) 0) : mergeE x y = 0 ∧ mergeR x y = mergeL x y := by
  have h : mergeE x y = 0 := by unfold mergeE; rw [if_pos ⟨hx, hy⟩, if_pos ⟨hl, hc⟩]
  exact ⟨h, if_pos h⟩
/-- Two filters of as many keys. -/
theorem builds_alike (k1 k2 : List (List Nat)) (B : Nat) (h : k1.length = k2.length) : (buildL k1 B).length = (buildL k2 B).length ∧ (buildL k1 B).getD ((buildL k1 B).length - 1) 0 = (buildL k2 B).getD ((buildL k2 B).length - 1) 0 := by
  refine ⟨by rw [buildL_length, buildL_length, h], by rw [build_last, build_last]⟩
theorem Strs.take {w : World} {a : Option Addr} {ss : List ByteArray} (h : Strs w a ss) (cap n : Nat) (hn : n ≤ ss.length) (hc : ss.length ≤ cap) : Strs w (part a cap 0) (ss.take n) := by
  rcases h with h | ⟨b, off, rfl, hlt, hcl⟩
  · subst h; simp at hn; left; simp
  · by_cases h0 : n = 0
    · left; simp [h0]
    · right
      refine ⟨b, off, ?_, hlt, fun i hi => ?_⟩
      · unfold part; split
        · rfl
        · simp [addr_add]
      · simp at hi
        rw [hcl i (by omega), List.getElem_take]
theorem run_part_strs {w : World} {a : Option Addr} (len cap q : Nat) (hq : q ≤ cap) :
    (Instr.slice 26 (.slice a len cap) none (some (.int .i64 (q : Int))) none).run Try.prog w = .ok (.slice (part a cap 0) q cap) w := by
  have hel : Try.prog.elem 26 = 9 := by kernel_rfl
  have hsz : Try.prog.cellsOf 9 = 1 := by kernel_rfl
  rw [run_slice_h (P := Try.prog) w 26 a len cap (by rw [hel]; exact Try.underlying26) .i64 q (by omega) (by omega), hel]
  simp [go_sem, sliced, part]
end Go.Proofs.Ytfgcdmgbgadkgaa
