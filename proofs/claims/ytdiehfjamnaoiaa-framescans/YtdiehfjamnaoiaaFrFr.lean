/-
  framed, which the laws ask first.
-/
import Derived.Test.YtdiehfjamnaoiaaFrW5
namespace Go.Proofs.Ytdiehfjamnaoiaa
open Go.RowKit

theorem wpAnyH_narrow {P : Program} {md : Region.Mode} {ops : Array Oper} {Q : Exit → Act → World → Prop} {S S' : World → Prop} (hS : ∀ w, S' w → S w) : ∀ (fuel : Nat) (listed : Array Bool) (a : Act) (w : World), wpAnyH P md ops Q S' fuel listed a w → wpAnyH P md ops Q S fuel listed a w
  | 0, _, _, _, h => h
  | fuel + 1, _, _, _, h => ⟨h.1, fun i hi => wpOp_mono (fun a' w' h' => ⟨hS _ h'.1, wpAnyH_narrow hS fuel _ a' w' h'.2⟩) (h.2 i hi)⟩
def zs (n : Nat) : List Nat := List.replicate n 0
theorem zs_byte (n : Nat) : ∀ x ∈ zs n, x < 256 := by intro x hx; rw [(List.mem_replicate.1 hx).2]; omega
theorem zs_made (w : World) (n : Nat) : Byt (w.alloc (.cells (madeCells #[.int .u8 0] n) 5)) (some ⟨w.heap.size, 0, none⟩) (zs n) := .inr ⟨_, 0, rfl, by simp, fun i hi => by
  have hi' : i < n := by simpa [zs] using hi
  rw [Nat.zero_add, cell_of_row _ _ _ _ _ _ (heap_alloc_new w _), Array.getElem?_eq_getElem (by rw [size_madeCells]; exact hi')]
  simp [zs, madeCells, Nat.mod_one]⟩
theorem run_make_zs (n : Nat) (hn : n ≤ 1000000) (wx : World) : (Instr.makeSlice 22 (.int .i64 (n : Int)) (.int .i64 (n : Int))).run Try.prog wx = .ok (.slice (some ⟨wx.heap.size, 0, none⟩) n n) (wx.alloc (.cells (madeCells #[.int .u8 0] n) 5)) :=
  run_make_row' (P := Try.prog) 22 5 (.int .u8 0) 1 Try.underlying22 Try.info5 rfl .i64 .i64 n (by omega) (by omega) wx
theorem zs_len (n : Nat) : (zs n).length = n := List.length_replicate
theorem zs_take (n k : Nat) : (zs n).take k = zs (min k n) := by unfold zs; rw [List.take_replicate]
theorem zs_drop (n k : Nat) : (zs n).drop k = zs (n - k) := by unfold zs; rw [List.drop_replicate]
theorem two_pieces {n : Nat} (h0 : 121 < n) (h1 : n ≤ 242) : Frm.frameL 0 (zs n) = Frm.pieceL 2 (zs 121) ++ Frm.pieceL 4 (zs (n - 121)) := by
  have e0 : Frm.gap 0 = 0 := rfl
  have e1 : Frm.room 0 = 121 := rfl
  unfold Frm.frameL Frm.bodyL
  rw [e0, e1, if_pos (by rw [zs_len]; exact h0), zs_take, zs_drop, Frm.tailP_last (by rw [zs_len]; omega), Nat.min_eq_left (by omega), List.replicate_zero, List.nil_append]
theorem framed_bytes : (Frm.frameL 0 (zs 122)).length = 136 ∧ (Frm.frameL 0 (zs 122)).getD 6 0 = 2 ∧ (Frm.frameL 0 (zs 122)).getD 134 0 = 4 := by
  have h := two_pieces (n := 122) (by omega) (by omega)
  have l1 : (Frm.pieceL 2 (zs 121)).length = 128 := by rw [Frm.pieceL_length, zs_len]
  have l2 : (Frm.pieceL 4 (zs 1)).length = 8 := by rw [Frm.pieceL_length, zs_len]
  rw [h]
  refine ⟨by rw [List.length_append, l1, l2], (Frm.parts 2 (zs 121) _ (by rw [zs_len]; omega)).2.2.1, ?_⟩
  have := (Frm.parts 4 (zs 1) [] (by rw [zs_len]; omega)).2.2.1
  rw [List.append_nil] at this
  rw [List.getD_eq_getElem?_getD, List.getElem?_append_right (by omega), l1, ← List.getD_eq_getElem?_getD]; exact this
theorem framed_scan : Frm.scanR 0 (Frm.frameL 0 (zs 122)) 0 [] false = ([zs 122], 136) := by
  have h := Frm.scan_frame 0 (zs 122) [] 0
  rw [List.append_nil, framed_bytes.1, Frm.scan_nil] at h
  exact h
theorem getD_cell {w : World} {b off : Nat} {l : List Nat} (hc : ∀ i (_ : i < l.length), w.cell? ⟨b, off + i, none⟩ = some (.int .u8 (l[i] : Int))) {i k : Nat} (hi : i < l.length) (hk : l.getD i 0 = k) : w.cell? ⟨b, off + i, none⟩ = some (.int .u8 (k : Int)) := by
  rw [hc i hi]
  rw [List.getD_eq_getElem?_getD, List.getElem?_eq_getElem hi] at hk
  have : l[i] = k := hk
  rw [this]
set_option maxRecDepth 100000 in
set_option maxHeartbeats 2000000 in
theorem framed_any (w : World) : Calls Try.prog 10 #[] w fun e w' => e = .returned (.bool true) ∧ Below w.heap.size w w' := by
  obtain ⟨F, hF⟩ : ∃ F, Frm.frameL 0 (zs 122) = F := ⟨_, rfl⟩
  have hfb := framed_bytes
  have hfs := framed_scan
  have hFb : ∀ x ∈ F, x < 256 := by rw [← hF]; exact Frm.frameL_byte (zs_byte 122)
  rw [hF] at hfb hfs
  obtain ⟨hlen, h6, h134⟩ := hfb
  have kmk : ∀ wx : World, (Instr.makeSlice 22 (.int .i64 122) (.int .i64 122)).run Try.prog wx = .ok (.slice (some ⟨wx.heap.size, 0, none⟩) 122 122) (wx.alloc (.cells (madeCells #[.int .u8 0] 122) 5)) := run_make_zs 122 (by omega)
  obtain ⟨W1, hW1⟩ : ∃ W1, w.alloc (.cells (madeCells #[.int .u8 0] 122) 5) = W1 := ⟨_, rfl⟩
  have hb0 : Below w.heap.size w W1 := by rw [← hW1]; exact below_alloc (Nat.le_refl _) _
  have hFr := Frame_any W1 0 (by omega) (some ⟨w.heap.size, 0, none⟩) 122 (zs 122) (by rw [← hW1]; exact zs_made w 122) (zs_byte 122) (by rw [zs_len]; omega) (fun h => by cases h) (by rw [zs_len]; omega)
  rw [hF, zs_len] at hFr
  have HFR := Lib.hid hFr
  have HB0 := Lib.hid hb0
  have hs0 := hb0.size
  have HX := Lib.hid (And.intro hlen (And.intro h6 (And.intro h134 (And.intro hfs hFb))))
  clear hFr hF hb0 hlen h6 h134 hfs hFb
  go_enter Try.func10, Try.ntmps10
  go_wp2_with fail
  refine HFR.out.mono ?_
  rintro e W2 ⟨v, rfl, ho, hb2⟩
  rw [HX.out.1] at ho
  obtain ⟨a, cap, rfl, hby, hno, hcap⟩ := byt_of_own ho
  have hlen := HX.out.1
  have hsc := Scan_any W2 a cap F hby HX.out.2.2.2.2 hcap (by omega)
  rw [HX.out.2.2.2.1, hlen] at hsc
  have HSC := Lib.hid hsc
  obtain ⟨bb, bo, rfl, hbl, hcells⟩ : ∃ b off, a = some ⟨b, off, none⟩ ∧ b < W2.heap.size ∧ ∀ i (_ : i < F.length), W2.cell? ⟨b, off + i, none⟩ = some (.int .u8 (F[i] : Int)) := by
    rcases hby with h | h
    · rw [h] at hlen; cases hlen
    · exact h
  have hc6 := getD_cell hcells (i := 6) (k := 2) (by omega) HX.out.2.1
  have hc134 := getD_cell hcells (i := 134) (k := 4) (by omega) HX.out.2.2.1
  have HC0 := Lib.hid (And.intro hc6 hc134)
  have HB2 : Hid (Below w.heap.size w W2) := Lib.hid (HB0.out.trans (hb2.mono hs0))
  have hs2 := hb2.size
  rw [hlen]
  clear hsc hby hno hcap ho hb2 hcells hc6 hc134 hlen HFR hW1
  go_wp2_with fail
  refine HSC.out.mono ?_
  rintro e W3 ⟨v3, rfl, ho3, hb3⟩
  obtain ⟨sb, so, scap, rfl, hcs⟩ : ∃ sb so scap, v3 = .slice (some ⟨sb, so, none⟩) 1 scap ∧ W3.cell? ⟨sb, so, none⟩ = some (.string (strOf (zs 122))) := by
    have hc := fun g hg => World.ownsRow.cells ho3 (g := g) hg
    rcases ho3.2 with ⟨rfl, h0⟩ | ⟨g, scap, cur, rfl, _⟩
    · cases h0
    · exact ⟨g, 0, scap, rfl, by have := hc g rfl 0 (.string (strOf (zs 122))) rfl; rw [addr_add] at this; exact this⟩
  have hcv : ∀ wx wy : World, wy = wx.alloc (.cells (madeCells #[.int .u8 0] 122) 5) → ∀ wz, Below wy.heap.size wy wz → (convert 22 9 (.slice (some ⟨wx.heap.size, 0, none⟩) 122 122)).run Try.prog wz = .ok (.string (strOf (zs 122))) wz := fun wx wy e wz hz => by
    subst e
    exact conv_bytes ((zs_made wx 122).keep hz) (zs_byte 122) (fun h => by cases h) 122 122 (zs_len 122)
  have HCV := Lib.hid hcv
  obtain ⟨T, hT⟩ : ∃ T, strOf (zs 122) = T := ⟨_, rfl⟩
  rw [hT] at HCV hcs
  have HC : Hid (W3.cell? ⟨bb, bo + 6, none⟩ = some (.int .u8 2) ∧ W3.cell? ⟨bb, bo + 134, none⟩ = some (.int .u8 4) ∧ W3.cell? ⟨sb, so, none⟩ = some (.string T)) := Lib.hid ⟨(hb3.cell (p := ⟨bb, bo + 6, none⟩) hbl).trans HC0.out.1, (hb3.cell (p := ⟨bb, bo + 134, none⟩) hbl).trans HC0.out.2, hcs⟩
  have HB3 : Hid (Below w.heap.size w W3) := Lib.hid (HB2.out.trans (hb3.mono (by omega)))
  have hs3 := HB3.out.size
  have hbl3 : bb < W3.heap.size := by have := hb3.size; omega
  have hsl3 : sb < W3.heap.size := World.block_lt_of_cell? W3 _ hcs
  have hbw : Below W3.heap.size W3 ((W3.alloc (Obj.cells (madeCells #[Value.int IntKind.u8 0] 122) 5)).drew) := (below_alloc (Nat.le_refl _) _).trans (below_drewN _ _ 1)
  clear hcv hT hcs ho3 hb3 HSC HC0 HB2 HB0
  go_wp2_with fail
  refine wp_region_held_drew (S := fun w' => w'.cell? ⟨bb, bo + 6, none⟩ = some (.int .u8 2) ∧ w'.cell? ⟨bb, bo + 134, none⟩ = some (.int .u8 4) ∧ w'.cell? ⟨sb, so, none⟩ = some (.string T)) (by kernel_rfl) ⟨HC.out.1, HC.out.2.1, HC.out.2.2⟩ (fun hHeld => ?_)
  refine wpAnyH_take (i := 0) (v := ?_) rfl (by kernel_rfl) (by kernel_rfl) (by kernel_rfl) (fun _ _ _ h => h) (Or.inl ⟨by rfl, ?_⟩) hHeld ?_
  rotate_left
  · (intro wx hSw; obtain ⟨hc6, hc134, hcs⟩ := hSw; first | (go_simp; done) | (go_simp; with_reducible rfl))
  simp only [Act.put, List.getElem_toArray, List.getElem_cons_zero, List.setIfInBounds_toArray, List.set_cons_zero, List.set_cons_succ]
  refine wpAnyH_take (i := 1) (v := ?_) rfl (by kernel_rfl) (by kernel_rfl) (by kernel_rfl) (fun _ _ _ h => h) (Or.inl ⟨by rfl, ?_⟩) hHeld ?_
  rotate_left
  · (intro wx hSw; obtain ⟨hc6, hc134, hcs⟩ := hSw; first | (go_simp; done) | (go_simp; with_reducible rfl))
  simp only [Act.put, List.getElem_toArray, List.getElem_cons_zero, List.getElem_cons_succ, List.setIfInBounds_toArray, List.set_cons_zero, List.set_cons_succ]
  refine wpAnyH_take (i := 2) (v := ?_) rfl (by kernel_rfl) (by kernel_rfl) (by kernel_rfl) (fun _ _ _ h => h) (Or.inl ⟨by rfl, ?_⟩) hHeld ?_
  rotate_left
  · (intro wx hSw; obtain ⟨hc6, hc134, hcs⟩ := hSw; first | (go_simp; done) | (go_simp; with_reducible rfl))
  simp only [Act.put, List.getElem_toArray, List.getElem_cons_zero, List.getElem_cons_succ, List.setIfInBounds_toArray, List.set_cons_zero, List.set_cons_succ]
  refine wpAnyH_take (i := 3) (v := ?_) rfl (by kernel_rfl) (by kernel_rfl) (by kernel_rfl) (fun _ _ _ h => h) (Or.inl ⟨by rfl, ?_⟩) hHeld ?_
  rotate_left
  · (intro wx hSw; obtain ⟨hc6, hc134, hcs⟩ := hSw; first | (go_simp; done) | (go_simp; with_reducible rfl))
  simp only [Act.put, List.getElem_toArray, List.getElem_cons_zero, List.getElem_cons_succ, List.setIfInBounds_toArray, List.set_cons_zero, List.set_cons_succ]
  refine wpAnyH_take (i := 4) (v := ?_) rfl (by kernel_rfl) (by kernel_rfl) (by kernel_rfl) (fun _ _ _ h => h) (Or.inl ⟨by rfl, ?_⟩) hHeld ?_
  rotate_left
  · (intro wx hSw; obtain ⟨hc6, hc134, hcs⟩ := hSw; first | (go_simp; done) | (go_simp; with_reducible rfl))
  simp only [Act.put, List.getElem_toArray, List.getElem_cons_zero, List.getElem_cons_succ, List.setIfInBounds_toArray, List.set_cons_zero, List.set_cons_succ]
  refine wpAnyH_take (i := 5) (v := ?_) rfl (by kernel_rfl) (by kernel_rfl) (by kernel_rfl) (fun _ _ _ h => h) (Or.inl ⟨by rfl, ?_⟩) hHeld ?_
  rotate_left
  · (intro wx hSw; obtain ⟨hc6, hc134, hcs⟩ := hSw; first | (go_simp; done) | (go_simp; with_reducible rfl))
  simp only [Act.put, List.getElem_toArray, List.getElem_cons_zero, List.getElem_cons_succ, List.setIfInBounds_toArray, List.set_cons_zero, List.set_cons_succ]
  refine wpAnyH_take (i := 6) (v := ?_) rfl (by kernel_rfl) (by kernel_rfl) (by kernel_rfl) (fun _ _ _ h => h) (Or.inl ⟨by rfl, ?_⟩) hHeld ?_
  rotate_left
  · (intro wx hSw; obtain ⟨hc6, hc134, hcs⟩ := hSw; first | (go_simp; done) | (go_simp; with_reducible rfl))
  simp only [Act.put, List.getElem_toArray, List.getElem_cons_zero, List.getElem_cons_succ, List.setIfInBounds_toArray, List.set_cons_zero, List.set_cons_succ]
  refine wpAnyH_take (i := 7) (v := ?_) rfl (by kernel_rfl) (by kernel_rfl) (by kernel_rfl) (fun _ _ _ h => h) (Or.inl ⟨by rfl, ?_⟩) hHeld ?_
  rotate_left
  · (intro wx hSw; obtain ⟨hc6, hc134, hcs⟩ := hSw; first | (go_simp; done) | (go_simp; with_reducible rfl))
  simp only [Act.put, List.getElem_toArray, List.getElem_cons_zero, List.getElem_cons_succ, List.setIfInBounds_toArray, List.set_cons_zero, List.set_cons_succ]
  refine wpAnyH_take (i := 8) (v := ?_) rfl (by kernel_rfl) (by kernel_rfl) (by kernel_rfl) (fun _ _ _ h => h) (Or.inl ⟨by rfl, ?_⟩) hHeld ?_
  rotate_left
  · (intro wx hSw; obtain ⟨hc6, hc134, hcs⟩ := hSw; first | (go_simp; done) | (go_simp; with_reducible rfl))
  simp only [Act.put, List.getElem_toArray, List.getElem_cons_zero, List.getElem_cons_succ, List.setIfInBounds_toArray, List.set_cons_zero, List.set_cons_succ]
  refine wpAnyH_take (i := 9) (v := ?_) rfl (by kernel_rfl) (by kernel_rfl) (by kernel_rfl) (fun _ _ _ h => h) (Or.inl ⟨by rfl, ?_⟩) hHeld ?_
  rotate_left
  · (intro wx hSw; obtain ⟨hc6, hc134, hcs⟩ := hSw; first | (go_simp; done) | (go_simp; with_reducible rfl))
  simp only [Act.put, List.getElem_toArray, List.getElem_cons_zero, List.getElem_cons_succ, List.setIfInBounds_toArray, List.set_cons_zero, List.set_cons_succ]
  refine wpAnyH_take (i := 10) (v := ?_) rfl (by kernel_rfl) (by kernel_rfl) (by kernel_rfl) (fun _ _ _ h => h) (Or.inl ⟨by rfl, ?_⟩) hHeld ?_
  rotate_left
  · (intro wx hSw; obtain ⟨hc6, hc134, hcs⟩ := hSw; first | (go_simp; done) | (go_simp; with_reducible rfl))
  simp only [Act.put, List.getElem_toArray, List.getElem_cons_zero, List.getElem_cons_succ, List.setIfInBounds_toArray, List.set_cons_zero, List.set_cons_succ]
  refine wpAnyH_take (i := 11) (v := ?_) rfl (by kernel_rfl) (by kernel_rfl) (by kernel_rfl) (fun _ _ _ h => h) (Or.inl ⟨by rfl, ?_⟩) hHeld ?_
  rotate_left
  · (intro wx hSw; obtain ⟨hc6, hc134, hcs⟩ := hSw; first | (go_simp; done) | (go_simp; with_reducible rfl))
  simp only [Act.put, List.getElem_toArray, List.getElem_cons_zero, List.getElem_cons_succ, List.setIfInBounds_toArray, List.set_cons_zero, List.set_cons_succ]
  refine wpAnyH_take (i := 12) (v := ?_) rfl (by kernel_rfl) (by kernel_rfl) (by kernel_rfl) (fun _ _ _ h => h) (Or.inl ⟨by rfl, ?_⟩) hHeld ?_
  rotate_left
  · (intro wx hSw; obtain ⟨hc6, hc134, hcs⟩ := hSw; first | (go_simp; done) | (go_simp; with_reducible rfl))
  simp only [Act.put, List.getElem_toArray, List.getElem_cons_zero, List.getElem_cons_succ, List.setIfInBounds_toArray, List.set_cons_zero, List.set_cons_succ]
  refine wpAnyH_take (i := 13) (v := ?_) rfl (by kernel_rfl) (by kernel_rfl) (by kernel_rfl) (fun _ _ _ h => h) (Or.inl ⟨by rfl, ?_⟩) hHeld ?_
  rotate_left
  · (intro wx hSw; obtain ⟨hc6, hc134, hcs⟩ := hSw; first | (go_simp; done) | (go_simp; with_reducible rfl))
  simp only [Act.put, List.getElem_toArray, List.getElem_cons_zero, List.getElem_cons_succ, List.setIfInBounds_toArray, List.set_cons_zero, List.set_cons_succ]
  refine wpAnyH_take (i := 14) (v := ?_) rfl (by kernel_rfl) (by kernel_rfl) (by kernel_rfl) (fun _ _ _ h => h) (Or.inl ⟨by rfl, ?_⟩) hHeld ?_
  rotate_left
  · (intro wx hSw; obtain ⟨hc6, hc134, hcs⟩ := hSw; first | (go_simp; done) | (go_simp; with_reducible rfl))
  simp only [Act.put, List.getElem_toArray, List.getElem_cons_zero, List.getElem_cons_succ, List.setIfInBounds_toArray, List.set_cons_zero, List.set_cons_succ]
  refine wpAnyH_take (i := 15) (v := ?_) rfl (by kernel_rfl) (by kernel_rfl) (by kernel_rfl) (fun _ _ _ h => h) (Or.inl ⟨by rfl, ?_⟩) hHeld ?_
  rotate_left
  · (intro wx hSw; obtain ⟨hc6, hc134, hcs⟩ := hSw; first | (go_simp; done) | (go_simp; with_reducible rfl))
  simp only [Act.put, List.getElem_toArray, List.getElem_cons_zero, List.getElem_cons_succ, List.setIfInBounds_toArray, List.set_cons_zero, List.set_cons_succ]
  refine wpAnyH_take (i := 16) (v := ?_) rfl (by kernel_rfl) (by kernel_rfl) (by kernel_rfl) (fun _ _ _ h => h) (Or.inl ⟨by rfl, ?_⟩) hHeld ?_
  rotate_left
  · (intro wx hSw; obtain ⟨hc6, hc134, hcs⟩ := hSw; first | (go_simp; done) | (go_simp; with_reducible rfl))
  simp only [Act.put, List.getElem_toArray, List.getElem_cons_zero, List.getElem_cons_succ, List.setIfInBounds_toArray, List.set_cons_zero, List.set_cons_succ]
  refine wpAnyH_take (i := 17) (v := ?_) rfl (by kernel_rfl) (by kernel_rfl) (by kernel_rfl) (fun _ _ _ h => h) (Or.inl ⟨by rfl, ?_⟩) hHeld ?_
  rotate_left
  · (intro wx hSw; obtain ⟨hc6, hc134, hcs⟩ := hSw; first | (go_simp; done) | (go_simp; with_reducible rfl))
  simp only [Act.put, List.getElem_toArray, List.getElem_cons_zero, List.getElem_cons_succ, List.setIfInBounds_toArray, List.set_cons_zero, List.set_cons_succ]
  refine wpAnyH_take (i := 18) (v := ?_) rfl (by kernel_rfl) (by kernel_rfl) (by kernel_rfl) (fun _ _ _ h => h) (Or.inl ⟨by rfl, ?_⟩) hHeld ?_
  rotate_left
  · (intro wx hSw; obtain ⟨hc6, hc134, hcs⟩ := hSw; first | (go_simp; done) | (go_simp; with_reducible rfl))
  simp only [Act.put, List.getElem_toArray, List.getElem_cons_zero, List.getElem_cons_succ, List.setIfInBounds_toArray, List.set_cons_zero, List.set_cons_succ]
  refine wpAnyH_take (i := 19) (v := ?_) rfl (by kernel_rfl) (by kernel_rfl) (by kernel_rfl) (fun _ _ _ h => h) (Or.inl ⟨by rfl, ?_⟩) hHeld ?_
  rotate_left
  · (intro wx hSw; obtain ⟨hc6, hc134, hcs⟩ := hSw; first | (go_simp; done) | (go_simp; with_reducible rfl))
  simp only [Act.put, List.getElem_toArray, List.getElem_cons_zero, List.getElem_cons_succ, List.setIfInBounds_toArray, List.set_cons_zero, List.set_cons_succ]
  refine wpAnyH_take (i := 20) (v := ?_) rfl (by kernel_rfl) (by kernel_rfl) (by kernel_rfl) (fun _ _ _ h => h) (Or.inl ⟨by rfl, ?_⟩) hHeld ?_
  rotate_left
  · (intro wx hSw; obtain ⟨hc6, hc134, hcs⟩ := hSw; first | (go_simp; done) | (go_simp; with_reducible rfl))
  simp only [Act.put, List.getElem_toArray, List.getElem_cons_zero, List.getElem_cons_succ, List.setIfInBounds_toArray, List.set_cons_zero, List.set_cons_succ]
  refine wpAnyH_take (i := 21) (v := ?_) rfl (by kernel_rfl) (by kernel_rfl) (by kernel_rfl) (fun _ _ _ h => h) (Or.inl ⟨by rfl, ?_⟩) hHeld ?_
  rotate_left
  · (intro wx hSw; obtain ⟨hc6, hc134, hcs⟩ := hSw; first | (go_simp; done) | (go_simp; with_reducible rfl))
  simp only [Act.put, List.getElem_toArray, List.getElem_cons_zero, List.getElem_cons_succ, List.setIfInBounds_toArray, List.set_cons_zero, List.set_cons_succ]
  refine wpAnyH_take (i := 22) (v := ?_) rfl (by kernel_rfl) (by kernel_rfl) (by kernel_rfl) (fun _ _ _ h => h) (Or.inl ⟨by rfl, ?_⟩) hHeld ?_
  rotate_left
  · (intro wx hSw; obtain ⟨hc6, hc134, hcs⟩ := hSw; first | (go_simp; done) | (go_simp; with_reducible rfl))
  simp only [Act.put, List.getElem_toArray, List.getElem_cons_zero, List.getElem_cons_succ, List.setIfInBounds_toArray, List.set_cons_zero, List.set_cons_succ]
  refine wpAnyH_take (i := 23) (v := ?_) rfl (by kernel_rfl) (by kernel_rfl) (by kernel_rfl) (fun _ _ _ h => h) (Or.inl ⟨by rfl, ?_⟩) hHeld ?_
  rotate_left
  · (intro wx hSw; obtain ⟨hc6, hc134, hcs⟩ := hSw; first | (go_simp; done) | (go_simp; with_reducible rfl))
  simp only [Act.put, List.getElem_toArray, List.getElem_cons_zero, List.getElem_cons_succ, List.setIfInBounds_toArray, List.set_cons_zero, List.set_cons_succ]
  refine wpAnyH_take (i := 24) (v := ?_) rfl (by kernel_rfl) (by kernel_rfl) (by kernel_rfl) (fun _ _ _ h => h) (Or.inl ⟨by rfl, ?_⟩) hHeld ?_
  rotate_left
  · (intro wx hSw; obtain ⟨hc6, hc134, hcs⟩ := hSw; first | (go_simp; done) | (go_simp; with_reducible rfl))
  simp only [Act.put, List.getElem_toArray, List.getElem_cons_zero, List.getElem_cons_succ, List.setIfInBounds_toArray, List.set_cons_zero, List.set_cons_succ]
  refine wpAnyH_take (i := 25) (v := ?_) rfl (by kernel_rfl) (by kernel_rfl) (by kernel_rfl) (fun _ _ _ h => h) (Or.inl ⟨by rfl, ?_⟩) hHeld ?_
  rotate_left
  · (intro wx hSw; obtain ⟨hc6, hc134, hcs⟩ := hSw; first | (go_simp; done) | (go_simp; with_reducible rfl))
  simp only [Act.put, List.getElem_toArray, List.getElem_cons_zero, List.getElem_cons_succ, List.setIfInBounds_toArray, List.set_cons_zero, List.set_cons_succ]
  refine wpAnyH_take (i := 26) (v := ?_) rfl (by kernel_rfl) (by kernel_rfl) (by kernel_rfl) (fun _ _ _ h => h) (Or.inl ⟨by rfl, ?_⟩) hHeld ?_
  rotate_left
  · (intro wx hSw; obtain ⟨hc6, hc134, hcs⟩ := hSw; first | (go_simp; done) | (go_simp; with_reducible rfl))
  simp only [Act.put, List.getElem_toArray, List.getElem_cons_zero, List.getElem_cons_succ, List.setIfInBounds_toArray, List.set_cons_zero, List.set_cons_succ]
  refine wpAnyH_take (i := 27) (v := ?_) rfl (by kernel_rfl) (by kernel_rfl) (by kernel_rfl) (fun _ _ _ h => h) (Or.inl ⟨by rfl, ?_⟩) hHeld ?_
  rotate_left
  · (intro wx hSw; obtain ⟨hc6, hc134, hcs⟩ := hSw; first | (go_simp; done) | (go_simp; with_reducible rfl))
  simp only [Act.put, List.getElem_toArray, List.getElem_cons_zero, List.getElem_cons_succ, List.setIfInBounds_toArray, List.set_cons_zero, List.set_cons_succ]
  refine wpAnyH_take (i := 28) (v := ?_) rfl (by kernel_rfl) (by kernel_rfl) (by kernel_rfl) (fun _ _ _ h => h) (Or.inl ⟨by rfl, ?_⟩) hHeld ?_
  rotate_left
  · (intro wx hSw; obtain ⟨hc6, hc134, hcs⟩ := hSw; first | (go_simp; done) | (go_simp; with_reducible rfl))
  simp only [Act.put, List.getElem_toArray, List.getElem_cons_zero, List.getElem_cons_succ, List.setIfInBounds_toArray, List.set_cons_zero, List.set_cons_succ]
  refine wpAnyH_take (i := 29) (v := ?_) rfl (by kernel_rfl) (by kernel_rfl) (by kernel_rfl) (fun _ _ _ h => h) (Or.inl ⟨by rfl, ?_⟩) hHeld ?_
  rotate_left
  · (intro wx hSw; obtain ⟨hc6, hc134, hcs⟩ := hSw; first | (go_simp; done) | (go_simp; with_reducible rfl))
  simp only [Act.put, List.getElem_toArray, List.getElem_cons_zero, List.getElem_cons_succ, List.setIfInBounds_toArray, List.set_cons_zero, List.set_cons_succ]
  refine wpAnyH_take (i := 30) (v := ?_) rfl (by kernel_rfl) (by kernel_rfl) (by kernel_rfl) (fun _ _ _ h => h) (Or.inl ⟨by rfl, ?_⟩) hHeld ?_
  rotate_left
  · (intro wx hSw; obtain ⟨hc6, hc134, hcs⟩ := hSw; first | (go_simp; done) | (go_simp; with_reducible rfl))
  simp only [Act.put, List.getElem_toArray, List.getElem_cons_zero, List.getElem_cons_succ, List.setIfInBounds_toArray, List.set_cons_zero, List.set_cons_succ]
  refine wpAnyH_take (i := 31) (v := ?_) rfl (by kernel_rfl) (by kernel_rfl) (by kernel_rfl) (fun _ _ _ h => h) (Or.inl ⟨by rfl, ?_⟩) hHeld ?_
  rotate_left
  · (intro wx hSw; obtain ⟨hc6, hc134, hcs⟩ := hSw; first | (go_simp; done) | (go_simp; with_reducible rfl))
  simp only [Act.put, List.getElem_toArray, List.getElem_cons_zero, List.getElem_cons_succ, List.setIfInBounds_toArray, List.set_cons_zero, List.set_cons_succ]
  refine wpAnyH_ready (rs := [32]) (by kernel_rfl) (by simp) ?_
  refine AllReadyH.cons rfl (fun K hK => ?_) AllReadyH.nil
  go_simp
  refine hK.out _ _ ⟨(hbw.cell (p := ⟨bb, bo + 6, none⟩) hbl3).trans HC.out.1, (hbw.cell (p := ⟨bb, bo + 134, none⟩) hbl3).trans HC.out.2.1, (hbw.cell (p := ⟨sb, so, none⟩) hsl3).trans HC.out.2.2⟩ (fun hHeld => ?_)
  clear hK K
  try simp only [Act.put, List.setIfInBounds_toArray, List.set_cons_zero, List.set_cons_succ]
  refine wpAnyH_narrow (S' := fun w' => (w'.cell? ⟨bb, bo + 6, none⟩ = some (.int .u8 2) ∧ w'.cell? ⟨bb, bo + 134, none⟩ = some (.int .u8 4) ∧ w'.cell? ⟨sb, so, none⟩ = some (.string T)) ∧ (convert 22 9 (.slice (some ⟨W3.heap.size, 0, none⟩) 122 122)).run Try.prog w' = .ok (.string T) w') (fun _ h => h.1) _ _ _ _ ?_
  replace hHeld : (fun w' : World => (w'.cell? ⟨bb, bo + 6, none⟩ = some (.int .u8 2) ∧ w'.cell? ⟨bb, bo + 134, none⟩ = some (.int .u8 4) ∧ w'.cell? ⟨sb, so, none⟩ = some (.string T)) ∧ (convert 22 9 (.slice (some ⟨W3.heap.size, 0, none⟩) 122 122)).run Try.prog w' = .ok (.string T) w') ((W3.alloc (Obj.cells (madeCells #[Value.int IntKind.u8 0] 122) 5)).drew) := ⟨hHeld, HCV.out W3 _ rfl _ (below_drewN _ _ 1)⟩
  refine wpAnyH_take (i := 33) (v := ?_) rfl (by kernel_rfl) (by kernel_rfl) (by kernel_rfl) (fun _ _ _ h => h) (Or.inl ⟨by rfl, ?_⟩) hHeld ?_
  rotate_left
  · (intro wx hSw; obtain ⟨_, hcv⟩ := hSw; first | (go_simp; done) | (go_simp; with_reducible rfl))
  simp only [Act.put, List.getElem_toArray, List.getElem_cons_zero, List.getElem_cons_succ, List.setIfInBounds_toArray, List.set_cons_zero, List.set_cons_succ]
  refine wpAnyH_take (i := 34) (v := ?_) rfl (by kernel_rfl) (by kernel_rfl) (by kernel_rfl) (fun _ _ _ h => h) (Or.inl ⟨by rfl, ?_⟩) hHeld ?_
  rotate_left
  · (intro wx hSw; obtain ⟨_, hcv⟩ := hSw; first | (go_simp; done) | (go_simp; with_reducible rfl))
  simp only [Act.put, List.getElem_toArray, List.getElem_cons_zero, List.getElem_cons_succ, List.setIfInBounds_toArray, List.set_cons_zero, List.set_cons_succ]
  refine wpAnyH_take (i := 35) (v := ?_) rfl (by kernel_rfl) (by kernel_rfl) (by kernel_rfl) (fun _ _ _ h => h) (Or.inl ⟨by rfl, ?_⟩) hHeld ?_
  rotate_left
  · (intro wx hSw; obtain ⟨_, hcv⟩ := hSw; first | (go_simp; done) | (go_simp; with_reducible rfl))
  simp only [Act.put, List.getElem_toArray, List.getElem_cons_zero, List.getElem_cons_succ, List.setIfInBounds_toArray, List.set_cons_zero, List.set_cons_succ]
  refine wpAnyH_take (i := 36) (v := ?_) rfl (by kernel_rfl) (by kernel_rfl) (by kernel_rfl) (fun _ _ _ h => h) (Or.inl ⟨by rfl, ?_⟩) hHeld ?_
  rotate_left
  · (intro wx hSw; obtain ⟨_, hcv⟩ := hSw; first | (go_simp; done) | (go_simp; with_reducible rfl))
  simp only [Act.put, List.getElem_toArray, List.getElem_cons_zero, List.getElem_cons_succ, List.setIfInBounds_toArray, List.set_cons_zero, List.set_cons_succ]
  refine wpAnyH_ready (rs := [37]) (by kernel_rfl) (by simp) ?_
  refine AllReadyH.cons rfl (fun K hK => ?_) AllReadyH.nil
  go_simp
  refine (Room_any 122 (by omega) _).mono ?_
  rintro e W5 ⟨rfl, rfl⟩
  try go_wp2_with fail
  refine hK.out _ _ hHeld (fun hHeld => ?_)
  clear hK K
  try simp only [Act.put, List.setIfInBounds_toArray, List.set_cons_zero, List.set_cons_succ]
  refine wpAnyH_take (i := 38) (v := ?_) rfl (by kernel_rfl) (by kernel_rfl) (by kernel_rfl) (fun _ _ _ h => h) (Or.inl ⟨by rfl, ?_⟩) hHeld ?_
  rotate_left
  · (intro wx hSw; obtain ⟨_, hcv⟩ := hSw; first | (go_simp; done) | (go_simp; with_reducible rfl))
  simp only [Act.put, List.getElem_toArray, List.getElem_cons_zero, List.getElem_cons_succ, List.setIfInBounds_toArray, List.set_cons_zero, List.set_cons_succ]
  refine wpAnyH_take (i := 39) (v := ?_) rfl (by kernel_rfl) (by kernel_rfl) (by kernel_rfl) (fun _ _ _ h => h) (Or.inl ⟨by rfl, ?_⟩) hHeld ?_
  rotate_left
  · (intro wx hSw; obtain ⟨_, hcv⟩ := hSw; first | (go_simp; done) | (go_simp; with_reducible rfl))
  simp only [Act.put, List.getElem_toArray, List.getElem_cons_zero, List.getElem_cons_succ, List.setIfInBounds_toArray, List.set_cons_zero, List.set_cons_succ]
  refine wpAnyH_take (i := 40) (v := ?_) rfl (by kernel_rfl) (by kernel_rfl) (by kernel_rfl) (fun _ _ _ h => h) (Or.inl ⟨by rfl, ?_⟩) hHeld ?_
  rotate_left
  · (intro wx hSw; obtain ⟨_, hcv⟩ := hSw; first | (go_simp; done) | (go_simp; with_reducible rfl))
  simp only [Act.put, List.getElem_toArray, List.getElem_cons_zero, List.getElem_cons_succ, List.setIfInBounds_toArray, List.set_cons_zero]
  refine wpAnyH_done (by kernel_rfl) ?_ _
  go_wp2
  go_ret
  exact ⟨rfl, HB3.out.trans (hbw.mono (by omega))⟩
end Go.Proofs.Ytdiehfjamnaoiaa
