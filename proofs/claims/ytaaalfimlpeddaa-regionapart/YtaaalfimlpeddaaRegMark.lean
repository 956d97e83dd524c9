/-
  What 'mark' of the laws of package region answers: new memory with the marks of a piece.
-/
import Derived.Test.YtaaalfimlpeddaaRegRow
namespace Go.Proofs.Ytaaalfimlpeddaa.regionApart
open Go.RowKit

/-- Byte k of the mark of piece i in a round. -/
def markB (ms : List Int) (len i round k : Nat) : Nat :=
  (if len = 0 then IntKind.u8.wrap ((i : Int) * 7 + k + round * 31) else bits .xor .u8 (IntKind.u8.wrap ((i : Int) * 7 + k + round * 31)) (ms.getD ((i + k) % len) 0)).toNat
theorem u8_lt (x : Int) : 0 ≤ IntKind.u8.wrap x ∧ IntKind.u8.wrap x < 256 := by
  rw [IntKind.wrap_u8]; omega
theorem bits_lt (op : BinOp) (x y : Int) : 0 ≤ bits op .u8 x y ∧ bits op .u8 x y < 256 := by unfold bits; exact u8_lt _
theorem markB_val (ms : List Int) (len i round k : Nat) : ((markB ms len i round k : Nat) : Int) = (if len = 0 then IntKind.u8.wrap ((i : Int) * 7 + k + round * 31) else bits .xor .u8 (IntKind.u8.wrap ((i : Int) * 7 + k + round * 31)) (ms.getD ((i + k) % len) 0)) := by
  unfold markB
  split
  · exact Int.toNat_of_nonneg (u8_lt _).1
  · exact Int.toNat_of_nonneg (bits_lt _ _ _).1
theorem markB_lt (ms : List Int) (len i round k : Nat) : markB ms len i round k < 256 := by
  have h := markB_val ms len i round k
  split at h
  · have := (u8_lt ((i : Int) * 7 + k + round * 31)).2; omega
  · have := (bits_lt .xor (IntKind.u8.wrap ((i : Int) * 7 + k + round * 31)) (ms.getD ((i + k) % len) 0)).2; omega
def markL (ms : List Int) (len i round n : Nat) : List Nat := (List.range n).map (markB ms len i round)

set_option maxRecDepth 100000 in
set_option maxHeartbeats 1600000 in
theorem mark_any (w : World) (a : Option Addr) (len cap : Nat) (ms : List Int) (hr : IsRow .u8 w a len cap ms) (i round n : Nat) (hi : i < 100) (hro : round < 10) (h1 : 1 ≤ n) (hn : n ≤ 128) :
    Calls Try.prog 29 #[.int .i64 i, .int .i64 round, .slice a len cap, .int .i64 n] w fun e w' => ∃ v, e = .returned v ∧ FreshRow 5 w v (u8s (markL ms len i round n)) w' := by
  have hlen := hr.len
  have kmk := run_make_row' (P := Try.prog) 49 5 (.int .u8 0) 1 Try.underlying49 Try.info5 rfl .i64 .i64 n (by omega) (by omega)
  have HR := Lib.hid hr
  have hst : (w.alloc (.cells (madeCells #[.int .u8 0] n) 5)).rowIs w.heap.size 5 n (fun c => if c < 0 then .int .u8 (markB ms len i round c) else .int .u8 0) := (World.rowIs_made w (.int .u8 0) n 5).congr (fun c _ => by simp)
  have HST := Lib.hid hst
  clear hr hst
  go_enter Try.func29, Try.ntmps29
  go_wp2_with fail
  go_loopw [10] (fun k wq => ∃ q : Nat, q ≤ n ∧ k = .int .i64 q ∧ Hid (wq.rowIs w.heap.size 5 n (fun c => if c < q then .int .u8 (markB ms len i round c) else .int .u8 0)) ∧ Hid (Grew w wq)) (fun k _ => n - (intOf k).toNat)
  case atStart => exact ⟨0, by omega, rfl, HST.out, Grew.alloc _ _⟩
  case round =>
    obtain ⟨q, hq, rfl, hrow, hg⟩ := hrel
    clear HST kmk
    by_cases hql : q < n
    · have c0 := hrow.out.cell hql
      rw [if_neg (by omega)] at c0
      have z0 := hrow.out.frozen q
      have hmv := markB_val ms len i round q
      by_cases hl0 : len = 0
      · subst hl0
        simp only [if_true] at hmv
        have HMV := Lib.hid hmv
        clear hmv
        have hfin : (wr.setCell ⟨w.heap.size, q, none⟩ (.int .u8 (IntKind.u8.wrap ((i : Int) * 7 + q + round * 31)))).rowIs w.heap.size 5 n (fun c => if c < q + 1 then .int .u8 (markB ms 0 i round c) else .int .u8 0) ∧ Grew w (wr.setCell ⟨w.heap.size, q, none⟩ (.int .u8 (IntKind.u8.wrap ((i : Int) * 7 + q + round * 31)))) :=
          ⟨(hrow.out.set q _).congr (fun c _ => by
            by_cases e : c = q
            · subst e; rw [if_pos rfl, if_pos (by omega), HMV.out]
            · rw [if_neg e]
              by_cases e2 : c < q
              · rw [if_pos e2, if_pos (by omega)]
              · rw [if_neg e2, if_neg (by omega)]), hg.out.setCell (p := ⟨w.heap.size, q, none⟩) (Nat.le_refl _) _⟩
        have HFN := Lib.hid hfin
        clear hfin hrow hg
        go_wp2
        go_roundw
        case rel => exact ⟨q + 1, by omega, by go_num, HFN.out.1, HFN.out.2⟩
        case measure => simp [intOf]; omega
      · rw [if_neg hl0] at hmv
        obtain ⟨mb, moff, rfl, hmb, hmc, _⟩ := HR.out.at (by omega)
        have hix : (i + q) % len < len := Nat.mod_lt _ (by omega)
        have hmq := hmc _ hix
        generalize hjx : (i + q) % len = jx at *
        have e1 : IntKind.i64.wrap ((i : Int) + (q : Int)) = (i : Int) + q := IntWalk.i64_in _ (by omega)
        have e2 : ((i : Int) + (q : Int)).tmod (len : Int) = (jx : Int) := by
          rw [Int.tmod_eq_emod_of_nonneg (by omega), ← hjx]; push_cast; rfl
        have e3 : ¬ ((len : Int) = 0) := by omega
        have e4 : ¬ (len = 0) := hl0
        have hmw : wr.cell? ⟨mb, moff + jx, none⟩ = some (.int .u8 (ms.getD jx 0)) := (hg.out.cell (p := ⟨mb, moff + jx, none⟩) hmb).trans hmq
        have hne : mb ≠ w.heap.size := by omega
        have hne2 : w.heap.size ≠ mb := by omega
        have hlp : (0 : Int) < (len : Int) := by omega
        generalize ms.getD jx 0 = mv at *
        have HMV := Lib.hid hmv
        clear hmv hmc hmq hjx
        have hv : bits .xor .u8 (((i : Int) * 7 + q + round * 31) % 256) mv = (markB ms len i round q : Nat) := by
          rw [HMV.out, IntKind.wrap_u8]
        have hfin : ∀ v1, ((wr.setCell ⟨w.heap.size, q, none⟩ v1).setCell ⟨w.heap.size, q, none⟩ (.int .u8 (bits .xor .u8 (((i : Int) * 7 + q + round * 31) % 256) mv))).rowIs w.heap.size 5 n (fun c => if c < q + 1 then .int .u8 (markB ms len i round c) else .int .u8 0) ∧ Grew w ((wr.setCell ⟨w.heap.size, q, none⟩ v1).setCell ⟨w.heap.size, q, none⟩ (.int .u8 (bits .xor .u8 (((i : Int) * 7 + q + round * 31) % 256) mv))) := fun v1 =>
          ⟨((hrow.out.set q v1).set q _).congr (fun c _ => by
            by_cases e : c = q
            · subst e; rw [if_pos rfl, if_pos (by omega), hv]
            · rw [if_neg e, if_neg e]
              by_cases e2 : c < q
              · rw [if_pos e2, if_pos (by omega)]
              · rw [if_neg e2, if_neg (by omega)]), (hg.out.setCell (p := ⟨w.heap.size, q, none⟩) (Nat.le_refl _) _).setCell (p := ⟨w.heap.size, q, none⟩) (Nat.le_refl _) _⟩
        have HFN := Lib.hid hfin
        clear hfin hrow hg hv
        go_wp2_with fail
        go_region
        go_wp2
        go_roundw
        case rel => exact ⟨q + 1, by omega, by go_num, (HFN.out _).1.drew, (HFN.out _).2.drew⟩
        case measure => simp [intOf]; omega
    · have : q = n := by omega
      subst this
      have hres : FreshRow 5 w (.slice (some ⟨w.heap.size, 0, none⟩) q q) (u8s (markL ms len i round q)) wr := by
        have hl : (u8s (markL ms len i round q)).length = q := by simp [u8s, markL]
        refine ⟨w.heap.size, q, by rw [hl], Nat.le_refl _, hrow.out.lt, ?_, hg.out⟩
        rw [hl]
        obtain ⟨c, hb, hc1, hc2⟩ := hrow.out
        refine ⟨by rw [hl]; omega, .inr ⟨w.heap.size, q, c, rfl, Nat.le_refl _, hb, Nat.le_refl _, by unfold maxLen; omega, by omega, ?_⟩⟩
        refine List.ext_getElem? (fun j => ?_)
        rw [List.getElem?_take]
        by_cases hj : j < q
        · rw [if_pos (by omega)]
          have := hc2 j hj
          simp only [if_pos hj] at this
          rw [Array.getElem?_toList, this]
          simp [u8s, markL, hj]
        · rw [if_neg (by omega), List.getElem?_eq_none (by rw [hl]; omega)]
      have HRS := Lib.hid hres
      clear hres hrow hg
      go_wp2
      go_ret
      exact ⟨_, rfl, HRS.out⟩
end Go.Proofs.Ytaaalfimlpeddaa.regionApart
