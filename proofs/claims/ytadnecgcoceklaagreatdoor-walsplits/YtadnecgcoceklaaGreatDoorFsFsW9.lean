/-
  Size, New, Off, Arm of package fs.
-/
import Derived.Test.YtadnecgcoceklaaGreatDoorFsFsW8
namespace Go.Proofs.YtadnecgcoceklaaGreatDoor
open Go.RowKit Go.Maps

theorem sizeE_err {a : A} {s : Bs} (h : a.findE s ≠ 0) : a.sizeE s = a.findE s ∧ a.size s = 0 := by
  have : a.sizeE s = a.findE s := by unfold A.sizeE; rw [if_neg h]
  exact ⟨this, by unfold A.size; rw [this, if_neg h]⟩
theorem sizeE_off {a : A} {s : Bs} (h : a.findE s = 0) (ho : a.off = true) : a.sizeE s = 4 ∧ a.size s = 0 := by
  have : a.sizeE s = 4 := by unfold A.sizeE; rw [if_pos h, ho]; rfl
  exact ⟨this, by unfold A.size; rw [this]; rfl⟩
theorem sizeE_ok {a : A} {s : Bs} (h : a.findE s = 0) (ho : a.off = false) : a.sizeE s = 0 ∧ a.size s = (a.file (a.idx s)).1.length := by
  have : a.sizeE s = 0 := by unfold A.sizeE; rw [if_pos h, ho]; rfl
  exact ⟨this, by unfold A.size; rw [this]; rfl⟩

set_option maxRecDepth 100000 in
set_option maxHeartbeats 1000000 in
theorem size_any {w : World} {pb : Nat} {a : A} {F : Nat → Prop} (h : FsAt w pb a F) (s : ByteArray) :
    Calls Tryz.prog 45 #[bp pb, .string s] w fun e w' => e = .returned (.tuple #[.int .i64 (a.size s.data.toList : Int), .int .i64 (a.sizeE s.data.toList)]) ∧ w = w' := by
  obtain ⟨ho, g, h⟩ := h
  have hfind := find_any h s
  by_cases h0 : a.findE s.data.toList = 0
  · have hi := ho.idx h0
    have c4 := h.c4
    have f0 := h.f0 hi.2.2
    obtain ⟨ad, cap, hbv⟩ := row_form (h.hF.r _ hi.2.2).1
    rw [hbv] at f0
    unfold findP at hfind
    rw [if_pos h0, h0] at hfind
    have HF := Lib.hid hfind
    cases hoff : a.off with
    | true =>
      rw [hoff] at c4
      have HV := Lib.hid (sizeE_off h0 hoff)
      clear hfind ho h hbv hi h0 hoff
      go_enter Tryz.func45, Tryz.ntmps45
      go_wp2_with fail
      refine HF.out.mono ?_
      rintro e W ⟨rfl, rfl⟩
      go_wp2
      go_ret2
      exact ⟨by rw [HV.out.1, HV.out.2]; rfl, rfl⟩
    | false =>
      rw [hoff] at c4
      have HV := Lib.hid (sizeE_ok h0 hoff)
      have hL : (a.files.getD (a.idx s.data.toList) ([], 0)).1.length = (a.file (a.idx s.data.toList)).1.length := rfl
      rw [hL] at f0
      generalize (a.file (a.idx s.data.toList)).1.length = L at *
      clear hfind ho h hbv hi h0 hoff hL
      go_enter Tryz.func45, Tryz.ntmps45
      go_wp2_with fail
      refine HF.out.mono ?_
      rintro e W ⟨rfl, rfl⟩
      go_wp2
      go_ret2
      exact ⟨by rw [HV.out.1, HV.out.2]; rfl, rfl⟩
  · have HV := Lib.hid (sizeE_err h0)
    unfold findP at hfind
    rw [if_neg h0] at hfind
    generalize hE : a.findE s.data.toList = E at *
    have hE6 := findE_err a s.data.toList (by rw [hE]; exact h0)
    rw [hE] at hE6
    have HF := Lib.hid hfind
    clear hfind ho h hE
    rcases hE6 with rfl | rfl
    all_goals
      go_enter Tryz.func45, Tryz.ntmps45
      go_wp2_with fail
      refine HF.out.mono ?_
      rintro e W ⟨rfl, rfl⟩
      go_wp2
      go_ret2
      exact ⟨by rw [HV.out.1, HV.out.2]; rfl, rfl⟩

set_option maxRecDepth 100000 in
set_option maxHeartbeats 400000 in
theorem off_any {w : World} {pb : Nat} {a : A} {F : Nat → Prop} (h : FsAt w pb a F) :
    Calls Tryz.prog 34 #[bp pb] w fun e w' => e = .returned (.bool a.off) ∧ w = w' := by
  obtain ⟨ho, g, h⟩ := h
  have c4 := h.c4
  clear ho h
  go_enter Tryz.func34, Tryz.ntmps34
  go_wp2
  go_ret
  exact ⟨rfl, rfl⟩

set_option maxRecDepth 100000 in
set_option maxHeartbeats 400000 in
theorem arm_any {w : World} {pb : Nat} {a : A} {F : Nat → Prop} (h : FsAt w pb a F) (n : Int) (hn : -9223372036854775808 ≤ n ∧ n ≤ 9223372036854775807) :
    Calls Tryz.prog 25 #[bp pb, .int .i64 n] w fun e w' => e = .returned (.tuple #[]) ∧ FsAt w' pb (a.arm n) F ∧ Moves F w F w' := by
  obtain ⟨ho, g, h⟩ := h
  have c5 := h.c5
  have c6 := h.c6
  have z5 := h.fz 5
  have z6 := h.fz 6
  have HO := Lib.hid ho
  have HG := Lib.hid h
  by_cases h0 : 0 ≤ n
  · have HX := Lib.hid (show ((n.toNat : Nat) : Int) = n by omega)
    clear ho h
    go_enter Tryz.func25, Tryz.ntmps25
    go_wp2
    go_end0
    have h1 := (HG.out.setP 5 (.bool true) (a' := { a with armed := true }) rfl rfl rfl rfl rfl).setP 6 (.int .i64 n) (a' := { a with armed := true, left := n.toNat }) (by rw [← HX.out]; rfl) rfl rfl rfl rfl
    have e : a.arm n = { a with armed := true, left := n.toNat } := by unfold A.arm; simp [h0]
    rw [e]
    exact ⟨rfl, ⟨⟨HO.out.room, by show n.toNat ≤ _; omega, HO.out.fil, HO.out.now, HO.out.last, HO.out.wait⟩, g, h1⟩, (Moves.setCell w (a := ⟨pb, 5, none⟩) HG.out.fp _).trans (Moves.setCell _ (a := ⟨pb, 6, none⟩) HG.out.fp _)⟩
  · have hlt : n < 0 := by omega
    have HX := Lib.hid (show n.toNat = 0 by omega)
    clear ho h
    go_enter Tryz.func25, Tryz.ntmps25
    go_wp2
    go_end0
    have h1 := (HG.out.setP 5 (.bool false) (a' := { a with armed := false }) rfl rfl rfl rfl rfl).setP 6 (.int .i64 0) (a' := { a with armed := false, left := 0 }) rfl rfl rfl rfl rfl
    have e : a.arm n = { a with armed := false, left := 0 } := by unfold A.arm; rw [HX.out]; simp [h0]
    rw [e]
    exact ⟨rfl, ⟨⟨HO.out.room, by show 0 ≤ _; omega, HO.out.fil, HO.out.now, HO.out.last, HO.out.wait⟩, g, h1⟩, (Moves.setCell w (a := ⟨pb, 5, none⟩) HG.out.fp _).trans (Moves.setCell _ (a := ⟨pb, 6, none⟩) HG.out.fp _)⟩

set_option maxRecDepth 100000 in
set_option maxHeartbeats 400000 in
theorem new_ok (n : Nat) (hn : n ≤ 1073741824) (w : World) :
    Calls Tryz.prog 14 #[.int .i64 (n : Int)] w fun e w' => e = .returned (.tuple #[bp w.heap.size, .int .i64 0]) ∧ FsAt w' w.heap.size (A.new n) (fun k => k = w.heap.size) ∧ Below w.heap.size w w' ∧ w'.heap.size = w.heap.size + 1 := by
  go_enter Tryz.func14, Tryz.ntmps14
  go_wp2
  go_ret2
  refine ⟨rfl, ⟨⟨hn, by simp [A.new], by simp [A.new], by simp [A.new], by simp [A.new], by simp [A.new]⟩, ⟨none, none, .slice none 0 0, [], fun _ => 0, fun _ => .slice none 0 0⟩, ?_⟩, bel1 _ _, by simp⟩
  refine ⟨heap_alloc_new w _, ⟨by simp, fun _ => ⟨rfl, rfl⟩, by simp, by simp, by simp⟩, ⟨World.ownsRow_nil _ _ _ _, by simp [Value.ownBlock], by simp⟩, rfl, fun _ => rfl, ⟨by simp [A.new], by simp [A.new], by simp [A.new], by simp [A.new]⟩, rfl, fun k hk => ?_⟩
  simp; omega
set_option maxRecDepth 100000 in
set_option maxHeartbeats 400000 in
theorem new_no (n : Int) (hn : n < 0 ∨ 1073741824 < n) (w : World) :
    Calls Tryz.prog 14 #[.int .i64 n] w fun e w' => e = .returned (.tuple #[.pointer none, .int .i64 1]) ∧ w = w' := by
  by_cases h0 : n < 0
  · clear hn
    go_enter Tryz.func14, Tryz.ntmps14
    go_wp2
    go_ret2
    exact ⟨rfl, rfl⟩
  · have h1 : 1073741824 < n := by omega
    clear hn
    go_enter Tryz.func14, Tryz.ntmps14
    go_wp2
    go_ret2
    exact ⟨rfl, rfl⟩
end Go.Proofs.YtadnecgcoceklaaGreatDoor

