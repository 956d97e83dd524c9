/-
  find, spend, New, Off, Arm of package fs.
-/
import Derived.Test.YtadnecgcoceklaaGreatDoorFsFsW1
namespace Go.Proofs.YtadnecgcoceklaaGreatDoor
open Go.RowKit Go.Maps

theorem isNm_le {s : ByteArray} (h : isNm s.data.toList = true) : s.size ≤ 24 := by
  by_cases h1 : 24 < s.size
  · rw [isNm_short (.inr h1)] at h; cases h
  · omega
theorem findE_no {a : A} {s : Bs} (h : isNm s = false) : a.findE s = 6 := by unfold A.findE; rw [if_pos h]
theorem findE_miss {a : A} {s : Bs} (h : isNm s = true) (hl : Dir.look a.now s = none) : a.findE s = 7 := by unfold A.findE; rw [if_neg (by rw [h]; simp), hl]
theorem findE_ok {a : A} {s : Bs} (h : isNm s = true) {i : Nat} (hl : Dir.look a.now s = some i) : a.findE s = 0 := by unfold A.findE; rw [if_neg (by rw [h]; simp), hl]
/-- What find hands back. -/
def findP (a : A) (g : Gh) (s : Bs) : Value := if a.findE s = 0 then bp (g.blk (a.idx s)) else .pointer none
theorem und66m : Tryz.prog.underlying 90 = some (.map 9 103) := Tryz.underlying90

set_option maxRecDepth 100000 in
set_option maxHeartbeats 400000 in
theorem find_nil (s : ByteArray) (w : World) : Calls Tryz.prog 69 #[.pointer none, .string s] w fun e w' => e = .returned (.tuple #[.pointer none, .int .i64 1]) ∧ w = w' := by
  go_enter Tryz.func69, Tryz.ntmps69
  go_wp2
  go_ret2
  exact ⟨rfl, rfl⟩

set_option maxRecDepth 100000 in
set_option maxHeartbeats 400000 in
theorem find_any {w : World} {g : Gh} {pb : Nat} {a : A} {F : Nat → Prop} (h : FsG w g pb a F) (s : ByteArray) :
    Calls Tryz.prog 69 #[bp pb, .string s] w fun e w' => e = .returned (.tuple #[findP a g s.data.toList, .int .i64 (a.findE s.data.toList)]) ∧ w = w' := by
  have hn := isName_any s w
  cases hb : isNm s.data.toList with
  | false =>
    rw [hb] at hn
    have HN := Lib.hid hn
    have HV := Lib.hid (findE_no (a := a) hb)
    clear hn hb h
    go_enter Tryz.func69, Tryz.ntmps69
    go_wp2_with fail
    refine HN.out.mono ?_
    rintro e w' ⟨rfl, rfl⟩
    go_wp2
    go_ret2
    exact ⟨by unfold findP; rw [HV.out]; rfl, rfl⟩
  | true =>
    rw [hb] at hn
    have HN := Lib.hid hn
    have hsz : s.size ≤ maxLen := by have := isNm_le hb; unfold maxLen; omega
    have c1 := h.c1
    cases hl : Dir.look a.now s.data.toList with
    | none =>
      have hlk : (Instr.lookup 90 (.map g.nm) (.string s) true).run Tryz.prog w = .ok (.tuple #[.pointer none, .bool false]) w := by
        cases hg : g.nm with
        | none => exact Maps.look_nil true K9 und65 (zeroP w) (key9 s hsz)
        | some b => rw [((h.hD.n b hg).1).look s hsz, hl]; rfl
      have HV := Lib.hid (findE_miss (a := a) hb hl)
      clear hn hb h hl
      go_enter Tryz.func69, Tryz.ntmps69
      go_wp2_with fail
      refine HN.out.mono ?_
      rintro e w' ⟨rfl, rfl⟩
      go_wp2
      go_ret2
      exact ⟨by unfold findP; rw [HV.out]; rfl, rfl⟩
    | some i =>
      have hlk : (Instr.lookup 90 (.map g.nm) (.string s) true).run Tryz.prog w = .ok (.tuple #[bp (g.blk i), .bool true]) w := by
        cases hg : g.nm with
        | none => rw [(h.hD.none_ hg).1] at hl; cases hl
        | some b => rw [((h.hD.n b hg).1).look s hsz, hl]; rfl
      have HV := Lib.hid (findE_ok (a := a) hb hl)
      have HI := Lib.hid (show a.idx s.data.toList = i by unfold A.idx; rw [hl]; rfl)
      clear hn hb h hl
      go_enter Tryz.func69, Tryz.ntmps69
      go_wp2_with fail
      refine HN.out.mono ?_
      rintro e w' ⟨rfl, rfl⟩
      go_wp2
      go_ret2
      exact ⟨by unfold findP; rw [HV.out, HI.out]; rfl, rfl⟩

theorem FsG.setP {w : World} {g : Gh} {pb : Nat} {a : A} {F : Nat → Prop} (h : FsG w g pb a F) (i : Nat) (v : Value) {a' : A} (hc : (pCells a g).setIfInBounds i v = pCells a' g)
    (e1 : a'.now = a.now) (e2 : a'.last = a.last) (e3 : a'.wait = a.wait) (e4 : a'.files = a.files) : FsG (w.setCell ⟨pb, i, none⟩ v) g pb a' F :=
  h.turnP (Touch.setCell (a := ⟨pb, i, none⟩) v) (by rw [Go.Joins.block_setCell h.hP v, hc]) e1 e2 e3 e4

set_option maxRecDepth 100000 in
set_option maxHeartbeats 400000 in
theorem spend_any {w : World} {g : Gh} {pb : Nat} {a : A} {F : Nat → Prop} (h : FsG w g pb a F) (ho : a.left ≤ 9223372036854775807) :
    Calls Tryz.prog 70 #[bp pb] w fun e w' => e = .returned (.int .i64 a.spendE) ∧ FsG w' g pb a.spent F ∧ Touch pb w w' := by
  have c4 := h.c4
  have c5 := h.c5
  have c6 := h.c6
  have z4 := h.fz 4
  have z6 := h.fz 6
  have H := Lib.hid h
  cases hoff : a.off with
  | true =>
    have HV := Lib.hid (show a.spendE = 4 ∧ a.spent = a by unfold A.spendE A.spent; rw [hoff]; simp)
    rw [hoff] at c4
    clear h hoff
    go_enter Tryz.func70, Tryz.ntmps70
    go_wp2
    go_ret
    exact ⟨by rw [HV.out.1]; rfl, by rw [HV.out.2]; exact H.out, Touch.refl _ _⟩
  | false =>
    rw [hoff] at c4
    cases har : a.armed with
    | false =>
      have HV := Lib.hid (show a.spendE = 0 ∧ a.spent = a by unfold A.spendE A.spent; rw [hoff, har]; simp)
      rw [har] at c5
      clear h hoff har
      go_enter Tryz.func70, Tryz.ntmps70
      go_wp2
      go_ret
      exact ⟨by rw [HV.out.1]; rfl, by rw [HV.out.2]; exact H.out, Touch.refl _ _⟩
    | true =>
      rw [har] at c5
      by_cases hl : a.left = 0
      · have HV := Lib.hid (show a.spendE = 4 ∧ a.spent = { a with off := true } by unfold A.spendE A.spent; rw [hoff, har, hl]; simp)
        rw [hl] at c6
        clear h hoff har hl
        go_enter Tryz.func70, Tryz.ntmps70
        go_wp2
        go_ret
        exact ⟨by rw [HV.out.1]; rfl, by rw [HV.out.2]; exact H.out.setP 4 _ rfl rfl rfl rfl rfl, Touch.setCell (a := ⟨pb, 4, none⟩) _⟩
      · have HV := Lib.hid (show a.spendE = 0 ∧ a.spent = { a with left := a.left - 1 } by unfold A.spendE A.spent; rw [hoff, har]; simp [hl])
        have e6 : IntKind.i64.wrap ((a.left : Int) - 1) = ((a.left - 1 : Nat) : Int) := by
          rw [IntWalk.i64_in _ (by omega)]; omega
        have d6 : ((a.left : Int) == 0) = false := by simp; omega
        clear h hoff har
        go_enter Tryz.func70, Tryz.ntmps70
        go_wp2
        go_ret
        exact ⟨by rw [HV.out.1]; rfl, by rw [HV.out.2]; exact H.out.setP 6 _ (by rfl) rfl rfl rfl rfl, Touch.setCell (a := ⟨pb, 6, none⟩) _⟩
end Go.Proofs.YtadnecgcoceklaaGreatDoor

