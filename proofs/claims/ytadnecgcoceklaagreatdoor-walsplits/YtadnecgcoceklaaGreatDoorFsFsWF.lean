/-
  List of package fs.
-/
import Derived.Test.YtadnecgcoceklaaGreatDoorFsFsWE
namespace Go.Proofs.YtadnecgcoceklaaGreatDoor
open Go.RowKit Go.Maps

def A.listE (a : A) : Int := if a.off then 4 else 0
def A.list (a : A) : List Bs := if a.off then [] else a.now.map (·.1)

set_option maxRecDepth 100000 in
set_option maxHeartbeats 400000 in
theorem list_any {w : World} {pb : Nat} {a : A} {F : Nat → Prop} (h : FsAt w pb a F) (ht : a.top < 1073741824) :
    Calls Tryz.prog 37 #[bp pb] w fun e w' => ∃ v, e = .returned (.tuple #[v, .int .i64 a.listE]) ∧ StrsP w a.list v w' := by
  obtain ⟨ho, g, h⟩ := h
  have c1 := h.c1
  have c4 := h.c4
  cases hoff : a.off with
  | true =>
    have HV := Lib.hid (show a.listE = 4 ∧ a.list = [] by unfold A.listE A.list; rw [hoff]; exact ⟨rfl, rfl⟩)
    rw [hoff] at c4
    clear ho h hoff
    go_enter Tryz.func37, Tryz.ntmps37
    go_wp2
    go_ret2
    rw [HV.out.1, HV.out.2]
    exact ⟨_, rfl, World.ownsRow_nil _ _ _ _, Below.refl _ _⟩
  | false =>
    have HV := Lib.hid (show a.listE = 0 ∧ a.list = a.now.map (·.1) by unfold A.listE A.list; rw [hoff]; exact ⟨rfl, rfl⟩)
    rw [hoff] at c4
    have HR := Lib.hid (rising_g h (by unfold A.top at ht; omega))
    clear ho h hoff
    go_enter Tryz.func37, Tryz.ntmps37
    go_wp2_with fail
    refine HR.out.mono ?_
    rintro e W ⟨v, rfl, hS⟩
    have HS := Lib.hid hS
    clear hS
    go_wp2
    go_ret2
    rw [HV.out.1, HV.out.2]
    exact ⟨v, rfl, HS.out⟩
end Go.Proofs.YtadnecgcoceklaaGreatDoor

