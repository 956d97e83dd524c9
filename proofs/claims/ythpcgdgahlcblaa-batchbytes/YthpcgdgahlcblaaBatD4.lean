/-
  Changes laid one behind another and cut again: plain.
-/
import Derived.Test.YthpcgdgahlcblaaBatD3
namespace Go.Proofs.Ythpcgdgahlcblaa
open Go.RowKit

theorem cutS_text (s : ByteArray) (rest : List Nat) (most : Nat) (hs : s.size ≤ most) (hm : s.size < 18446744073709551616) : cutS (textL s ++ rest) most = (s, (textL s).length, true) := by
  have e : textL s ++ rest = VA.putL s.size ++ (natsOf s ++ rest) := by unfold textL; rw [List.append_assoc]
  have hg := VA.getS_put s.size (natsOf s ++ rest) hm
  unfold cutS
  rw [e, hg]
  have hn : (natsOf s).length = s.size := natsOf_length s
  rw [if_neg (by
    rintro (h | h | h)
    · exact h rfl
    · dsimp only at h; omega
    · dsimp only at h; rw [List.length_append, List.length_append] at h; omega)]
  have h1 : ((VA.putL s.size ++ (natsOf s ++ rest)).take ((VA.putL s.size).length + s.size)).drop (VA.putL s.size).length = natsOf s := by
    rw [List.take_length_add_append, List.drop_left, ← hn, List.take_left]
  dsimp only
  rw [h1, strOf_natsOf]
  unfold textL
  rw [List.length_append, hn]
/-- A change that a batch may bear is cut as it was laid. -/
theorem cutOpS_op (o : OpV) (rest : List Nat) (hk : o.key.size ≤ 64) (hv : o.val.size ≤ 1000) (hkd : o.kind = 1 ∨ (o.kind = 0 ∧ o.val = ⟨#[]⟩)) : cutOpS (opL o ++ rest) = (o, (opL o).length, true) := by
  obtain ⟨kd, ky, vl⟩ := o
  dsimp only at hk hv hkd
  rcases hkd with rfl | ⟨rfl, rfl⟩
  · have e : opL ⟨1, ky, vl⟩ ++ rest = 1 :: (textL ky ++ (textL vl ++ rest)) := by
      show (1 :: (textL ky ++ if (1 : Int) = 1 then textL vl else [])) ++ rest = _
      rw [if_pos rfl]; simp
    have e2 : (opL ⟨1, ky, vl⟩).length = 1 + (textL ky).length + (textL vl).length := by
      show (1 :: (textL ky ++ if (1 : Int) = 1 then textL vl else [])).length = _
      rw [if_pos rfl]; simp; omega
    rw [e, e2]
    have h1 := cutS_text ky (textL vl ++ rest) 64 hk (by omega)
    have h2 := cutS_text vl rest 1000 hv (by omega)
    simp only [cutOpS, h1]
    rw [List.drop_left, h2]
    simp
  · have e : opL ⟨0, ky, ⟨#[]⟩⟩ ++ rest = 0 :: (textL ky ++ rest) := by
      show (0 :: (textL ky ++ if (0 : Int) = 1 then textL _ else [])) ++ rest = _
      rw [if_neg (by omega)]; simp
    have e2 : (opL ⟨0, ky, ⟨#[]⟩⟩).length = 1 + (textL ky).length := by
      show (0 :: (textL ky ++ if (0 : Int) = 1 then textL _ else [])).length = _
      rw [if_neg (by omega)]; simp; omega
    rw [e, e2]
    have h1 := cutS_text ky rest 64 hk (by omega)
    simp only [cutOpS, h1]
    simp
/-- So many changes that bytes begin with, and what is behind them. -/
def cutOpsF : Nat → List Nat → Option (List OpV × List Nat)
  | 0, l => some ([], l)
  | c + 1, l => if (cutOpS l).2.2 = true then (cutOpsF c (l.drop (cutOpS l).2.1)).map fun p => ((cutOpS l).1 :: p.1, p.2) else none
theorem cutOpsF_lay (l : List OpV) (h : ∀ o ∈ l, o.key.size ≤ 64 ∧ o.val.size ≤ 1000 ∧ (o.kind = 1 ∨ (o.kind = 0 ∧ o.val = ⟨#[]⟩))) (rest : List Nat) : cutOpsF l.length (opsL l ++ rest) = some (l, rest) := by
  induction l with
  | nil => rfl
  | cons o t ih =>
    obtain ⟨h1, h2, h3⟩ := h o (by simp)
    have e : opsL (o :: t) ++ rest = opL o ++ (opsL t ++ rest) := by unfold opsL; rw [List.flatMap_cons, List.append_assoc]
    have hc := cutOpS_op o (opsL t ++ rest) h1 h2 h3
    rw [e]
    show cutOpsF (t.length + 1) _ = _
    unfold cutOpsF
    rw [hc, if_pos rfl]
    dsimp only
    rw [List.drop_left, ih (fun x hx => h x (List.mem_cons_of_mem _ hx))]
    rfl
end Go.Proofs.Ythpcgdgahlcblaa
