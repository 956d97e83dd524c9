/-
  What the rows list of the library's variables: that it gives what the walks read; a start that meets it.
-/
import Derived.Test.YtadnecgcoceklaaGreatDoorWalW1
import Derived.Test.YtadnecgcoceklaaGreatDoorRows
import Derived.LaidMore
import Derived.Stop.Joined
import Derived.Stop.LaidErr
import Derived.Lib.LaidTab
namespace Go.Proofs.YtadnecgcoceklaaGreatDoor
open Go.RowKit

/-- The five variables, as the rows list them. -/
def laid5 : List (String × DataW Unit) := Rows.walNamesRow.laid
theorem gES : Tryz.prog.globalNamed "strconv.ErrSyntax" = some 0 := by kernel_rfl
theorem gER : Tryz.prog.globalNamed "strconv.ErrRange" = some 1 := by kernel_rfl
theorem gTab : Tryz.prog.globalNamed "internal/strconv.uint64pow10" = some 2 := by kernel_rfl
theorem tES : (Tryz.prog.globals[0]?).map (·.type) = some 143 := by kernel_rfl
theorem tER : (Tryz.prog.globals[1]?).map (·.type) = some 143 := by kernel_rfl
theorem tTab : (Tryz.prog.globals[2]?).map (·.type) = some 192 := by kernel_rfl
theorem cEs : Tryz.prog.cellsOf 204 = 1 := by kernel_rfl
theorem cStr : Tryz.prog.cellsOf 9 = 1 := by kernel_rfl
theorem star : "*" ++ "errors.errorString" = "*errors.errorString" := by decide
theorem rowE (u : TypeId) (h : Tryz.prog.typeName? 3 u = some "*errors.errorString") : u = 202 :=
  typeName_ptr_named (nm := "errors.errorString") (by rw [star]; kernel_rfl) (by kernel_rfl) (by decide) u (by rw [star]; exact h)
theorem vars_of_laid {W : World} (h : laidMetH Tryz.prog laid5 W) : Vars W := by
  rw [MakeChecks.laidMetH_plain _ _ _ (by kernel_rfl)] at h
  have h3 := h.tail.tail
  have h4 := h3.tail
  have h5 := h4.tail
  obtain ⟨a1, s1, hv1, -, -, -⟩ := laid_sentinel h4 gER tER Tryz.underlying143 rowE Tryz.underlying202 Tryz.underlying204 rfl rfl Tryz.underlying9 cEs cStr
  obtain ⟨a0, s0, hv0, -, -, -⟩ := laid_sentinel h5 gES tES Tryz.underlying143 rowE Tryz.underlying202 Tryz.underlying204 rfl rfl Tryz.underlying9 cEs cStr
  exact ⟨Lib.tabIs_of_head gTab tTab Tryz.underlying192 Tryz.underlying33 (by kernel_rfl) (by kernel_rfl) h3, ⟨_, _, hv0⟩, ⟨_, _, hv1⟩⟩
theorem door_met (os : Os) (args : Array Value) : laidMetH Tryz.prog laid5 ((World.doorLaid Tryz.prog 4000 os).forCall (fun _ _ => 0) ⟨#[], args, []⟩).memory := by
  rw [MakeChecks.laidMetH_plain _ _ _ (by kernel_rfl)]
  exact laidMet_of_run' 8 (by kernel_rfl) (by kernel_rfl)
end Go.Proofs.YtadnecgcoceklaaGreatDoor
