/-
  What PutText answers.
-/
import Derived.Test.YthpcgdgahlcblaaVaVarTxt
import Derived.Lib.AppendStr
namespace Go.Proofs.Ythpcgdgahlcblaa.VA
open Go.RowKit

theorem strCells_u8s (s : ByteArray) : Go.Lib.strCells s = u8s (natsOf s) := by
  simp [Go.Lib.strCells, u8s, natsOf]
set_option maxRecDepth 100000 in
set_option maxHeartbeats 800000 in
theorem PutText_any (w : World) (s : ByteArray) (hs : s.size ≤ 140737488351232) :
    Calls Try.prog 32 #[.string s] w (FreshU w (putL s.size ++ natsOf s)) := by
  obtain ⟨i0, hi0, hz0, hz1, hz2⟩ := info_parts Try.info5
  have hl10 := putL_len10 s.size (by omega)
  have hq : ((s.size : Int) + 10) = ((10 + s.size : Nat) : Int) := by omega
  go_enter Try.func32, Try.ntmps32
  go_wp2_with (at_make; refine wpList_make_own _ rfl _ _ 23 rfl w.heap.size 5 i0 (.int .u8 0) 1 Try.underlying23 hi0 hz0 hz1 _ _ _ (10 + s.size) rfl rfl (by omega) ?b2 ?b3 (Nat.le_refl _) ?_)
  case b2 => rw [hz2]; omega
  case b3 => unfold maxLen; omega
  intro w1 hown1 hg1
  have HB1 : Hid (Below w.heap.size w w1) := Lib.hid ((Below.refl _ _).grown hg1 (Nat.le_refl _) (fun g hg => by cases hg))
  have HO1 := Lib.hid hown1
  clear hown1 hg1
  go_wp2_with fail
  refine (put_any w1 w.heap.size HB1.out.size _ [] (by simp) HO1.out s.size (by omega)).mono ?_
  rintro e w2 ⟨v2, rfl, hown2, hb2⟩
  have HO2 := Lib.hid hown2
  have HB2 := Lib.hid (HB1.out.trans hb2)
  clear hown2 hb2 HO1 HB1
  go_wp2_with (at_builtin; refine Go.Lib.wpList_append_own_string _ rfl _ _ 23 9 rfl w.heap.size 5 i0 Try.underlying23 Try.underlying9 hi0 hz0 hz1 hz2 _ _ _ rfl HO2.out s rfl ?c1 ?c2 ?c3 ?_)
  case c1 => unfold maxLen; rw [List.nil_append]; omega
  case c2 => rw [List.nil_append]; omega
  case c3 => exact HB2.out.size
  intro v3 w3 hown3 hg3 hnil
  have HO3 : Hid (w3.ownsRow w.heap.size 5 1 v3 (putL s.size ++ natsOf s).length (u8s (putL s.size ++ natsOf s))) := Lib.hid (by
    rw [strCells_u8s] at hown3
    simpa [u8s, natsOf_length] using hown3)
  have HB3 : Hid (Below w.heap.size w w3) := Lib.hid (HB2.out.grown hg3 HB2.out.size (fun g hg => (HO2.out.lt g hg).1))
  clear hown3 hg3 hnil HO2 HB2
  go_wp2
  go_ret
  exact ⟨_, rfl, HO3.out, HB3.out⟩
end Go.Proofs.Ythpcgdgahlcblaa.VA
