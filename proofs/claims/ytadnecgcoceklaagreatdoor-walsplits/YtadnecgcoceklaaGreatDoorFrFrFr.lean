/-
  framed, which the laws ask first.
-/
import Derived.Test.YtadnecgcoceklaaGreatDoorFrFrW5
namespace Go.Proofs.YtadnecgcoceklaaGreatDoor.FR
open Go.RowKit

theorem wpAnyH_narrow {P : Program} {md : Region.Mode} {ops : Array Oper} {Q : Exit → Act → World → Prop} {S S' : World → Prop} (hS : ∀ w, S' w → S w) : ∀ (fuel : Nat) (listed : Array Bool) (a : Act) (w : World), wpAnyH P md ops Q S' fuel listed a w → wpAnyH P md ops Q S fuel listed a w
  | 0, _, _, _, h => h
  | fuel + 1, _, _, _, h => ⟨h.1, fun i hi => wpOp_mono (fun a' w' h' => ⟨hS _ h'.1, wpAnyH_narrow hS fuel _ a' w' h'.2⟩) (h.2 i hi)⟩
def zs (n : Nat) : List Nat := List.replicate n 0
theorem zs_byte (n : Nat) : ∀ x ∈ zs n, x < 256 := by intro x hx; rw [(List.mem_replicate.1 hx).2]; omega
theorem zs_made (w : World) (n : Nat) : Byt (w.alloc (.cells (madeCells #[.int .u8 0] n) 5)) (some ⟨w.heap.size, 0, none⟩) (zs n) := .inr ⟨_, 0, rfl, by simp, fun i hi => by
  have hi' : i < n := by simpa [zs] using hi
  rw [Nat.zero_add, cell_of_row _ _ _ _ _ _ (heap_alloc_new w _), Array.getElem?_eq_getElem (by rw [size_madeCells]; exact hi')]
  simp [zs, madeCells, Nat.mod_one]⟩
theorem run_make_zs (n : Nat) (hn : n ≤ 1000000) (wx : World) : (Instr.makeSlice 47 (.int .i64 (n : Int)) (.int .i64 (n : Int))).run Tryz.prog wx = .ok (.slice (some ⟨wx.heap.size, 0, none⟩) n n) (wx.alloc (.cells (madeCells #[.int .u8 0] n) 5)) :=
  run_make_row' (P := Tryz.prog) 47 5 (.int .u8 0) 1 Tryz.underlying47 Tryz.info5 rfl .i64 .i64 n (by omega) (by omega) wx
theorem zs_len (n : Nat) : (zs n).length = n := List.length_replicate
theorem zs_take (n k : Nat) : (zs n).take k = zs (min k n) := by unfold zs; rw [List.take_replicate]
theorem zs_drop (n k : Nat) : (zs n).drop k = zs (n - k) := by unfold zs; rw [List.drop_replicate]
theorem two_pieces {n : Nat} (h0 : 121 < n) (h1 : n ≤ 242) : Frm.frameL 0 (zs n) = Frm.pieceL 2 (zs 121) ++ Frm.pieceL 4 (zs (n - 121)) := by
  have e0 : Frm.gap 0 = 0 := rfl
  have e1 : Frm.room 0 = 121 := rfl
  unfold Frm.frameL Frm.bodyL
  rw [e0, e1, if_pos (by rw [zs_len]; exact h0), zs_take, zs_drop, Frm.tailP_last (by rw [zs_len]; omega), Nat.min_eq_left (by omega), List.replicate_zero, List.nil_append]
theorem framed_bytes : (Frm.frameL 0 (zs 122)).length = 136 ∧ (Frm.frameL 0 (zs 122)).getD 6 0 = 2 ∧ (Frm.frameL 0 (zs 122)).getD 134 0 = 4 := by
  have h := two_pieces (n := 122) (by omega) (by omega)
  have l1 : (Frm.pieceL 2 (zs 121)).length = 128 := by rw [Frm.pieceL_length, zs_len]
  have l2 : (Frm.pieceL 4 (zs 1)).length = 8 := by rw [Frm.pieceL_length, zs_len]
  rw [h]
  refine ⟨by rw [List.length_append, l1, l2], (Frm.parts 2 (zs 121) _ (by rw [zs_len]; omega)).2.2.1, ?_⟩
  have := (Frm.parts 4 (zs 1) [] (by rw [zs_len]; omega)).2.2.1
  rw [List.append_nil] at this
  rw [List.getD_eq_getElem?_getD, List.getElem?_append_right (by omega), l1, ← List.getD_eq_getElem?_getD]; exact this
theorem framed_scan : Frm.scanR 0 (Frm.frameL 0 (zs 122)) 0 [] false = ([zs 122], 136) := by
  have h := Frm.scan_frame 0 (zs 122) [] 0
  rw [List.append_nil, framed_bytes.1, Frm.scan_nil] at h
  exact h
theorem getD_cell {w : World} {b off : Nat} {l : List Nat} (hc : ∀ i (_ : i < l.length), w.cell? ⟨b, off + i, none⟩ = some (.int .u8 (l[i] : Int))) {i k : Nat} (hi : i < l.length) (hk : l.getD i 0 = k) : w.cell? ⟨b, off + i, none⟩ = some (.int .u8 (k : Int)) := by
  rw [hc i hi]
  rw [List.getD_eq_getElem?_getD, List.getElem?_eq_getElem hi] at hk
  have : l[i] = k := hk
  rw [this]
end Go.Proofs.YtadnecgcoceklaaGreatDoor.FR
