/-
  batched, which the laws ask first; size; a change more in a row of one's own.
-/
import Derived.Test.YthpcgdgahlcblaaBatW2
import Derived.Test.YthpcgdgahlcblaaBatArg
namespace Go.Proofs.Ythpcgdgahlcblaa
open Go.RowKit

def oneOp : OpV := ⟨1, ⟨#[97]⟩, ⟨#[120, 121]⟩⟩
theorem one_chk : chkI 1 [oneOp] = 0 := by decide
theorem one_enc : encR 1 [oneOp] = [1, 0, 0, 0, 0, 0, 0, 0, 1, 0, 0, 0, 1, 1, 97, 2, 120, 121] := by
  have h1 : VA.putL 1 = [1] := VA.putL_lt (by omega)
  have h2 : VA.putL 2 = [2] := VA.putL_lt (by omega)
  have e : encR 1 [oneOp] = fixL 1 8 ++ fixL 1 4 ++ (1 :: ((VA.putL 1 ++ [97]) ++ (VA.putL 2 ++ [120, 121]))) := by
    unfold encR encL
    rw [if_pos one_chk]
    unfold opsL
    simp [List.flatMap_cons]
    show 1 :: ((VA.putL 1 ++ [97]) ++ (if (1 : Int) = 1 then VA.putL 2 ++ [120, 121] else [])) = _
    rw [if_pos rfl]; simp
  rw [e, h1, h2]; rfl
theorem ops_new (w : World) (o : OpV) (p : Nat) (hp : w.heap.size = p) : OpsAt (w.alloc (.cells #[.int .i64 o.kind, .string o.key, .string o.val] 48)) (some ⟨p, 0, none⟩) [o] := by
  subst hp
  refine .inr ⟨_, 0, rfl, by simp, fun i hi => ?_⟩
  have : i = 0 := by simp at hi; exact hi
  subst this
  have h := heap_alloc_new w (.cells #[.int .i64 o.kind, .string o.key, .string o.val] 48)
  exact ⟨by rw [cell_of_row _ _ _ _ _ _ h]; rfl, by rw [cell_of_row _ _ _ _ _ _ h]; rfl, by rw [cell_of_row _ _ _ _ _ _ h]; rfl⟩
set_option maxRecDepth 100000 in
set_option maxHeartbeats 800000 in
theorem batched_any (w : World) : Calls Try.prog 10 #[] w fun e w' => e = .returned (.bool true) ∧ Below w.heap.size w w' := by
  obtain ⟨W1, hW1⟩ : ∃ W1, w.alloc (.cells #[.int .i64 1, .string ⟨#[97]⟩, .string ⟨#[120, 121]⟩] 48) = W1 := ⟨_, rfl⟩
  have hb1 : Below w.heap.size w W1 := by rw [← hW1]; exact below_alloc (Nat.le_refl _) _
  have hop : OpsAt W1 (some ⟨w.heap.size, 0, none⟩) [oneOp] := by rw [← hW1]; exact ops_new w oneOp _ rfl
  have HE := Lib.hid (encode_any 1 (by omega) W1 (some ⟨w.heap.size, 0, none⟩) 1 1 [oneOp] hop rfl (by omega))
  have HB1 := Lib.hid hb1
  have s1 := hb1.size
  clear hop hb1
  go_enter Try.func10, Try.ntmps10
  go_wp2_with fail
  refine HE.out.mono ?_
  rintro e W2 ⟨v, rfl, ho, hb⟩
  rw [one_enc] at ho
  rw [one_chk]
  obtain ⟨a, cap, rfl, hby, hno, hcap⟩ := byt_of_own ho
  have hcv := conv_bytes hby (by intro x hx; simp at hx; omega) hno cap 18 rfl
  have hs : strOf [1, 0, 0, 0, 0, 0, 0, 0, 1, 0, 0, 0, 1, 1, 97, 2, 120, 121] = ⟨#[1, 0, 0, 0, 0, 0, 0, 0, 1, 0, 0, 0, 1, 1, 97, 2, 120, 121]⟩ := rfl
  rw [hs] at hcv
  have HB := Lib.hid (HB1.out.trans (hb.mono s1))
  clear ho hby hno hcap hb hW1 hs
  go_wp2
  go_ret
  exact ⟨rfl, HB.out⟩
end Go.Proofs.Ythpcgdgahlcblaa
