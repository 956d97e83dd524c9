/-
  An argument that came in: a shift (two numbers and bytes).
-/
import Derived.Test.YtdiehfjamnaoiaaFrStrs
import Derived.ProofKit
import Derived.Deep.Slices
import Derived.OpenShut
import Derived.ChangeOld
namespace Go.Proofs.Ytdiehfjamnaoiaa
open Go.RowKit Go.Deep Go.ChangeShapes Go.WideShapes Go.ChangeAt

theorem open_rowB {H : Type} {enc : TypeId × Value → H} {W : World} {base : Nat} {held : Bool} {fuel : Nat} {v : Value} {d : DataW H} {ps : List MemPlace}
    (h : DataW.trod enc Try.prog W base (fun _ => true) held fuel 22 [v] = some (d, ps)) : ∃ ad len cap zs, v = .slice ad len cap ∧ IsRow .u8 W ad len cap zs := by
  rcases open_ints Try.underlying22 Try.underlying5 (by kernel_rfl) h with ⟨hcs, _⟩ | ⟨x, l, c, zs, hcs, _, hl, hm, hz, hdt, hcell, hwz⟩
  · simp at hcs
    subst hcs
    exact ⟨none, 0, 0, [], rfl, .inl ⟨rfl, rfl, rfl, rfl⟩⟩
  · simp at hcs
    subst hcs
    exact ⟨some x, l, c, zs, rfl, .inr ⟨_, rfl, hl, hm, by simpa using hz, hcell, hwz⟩⟩
set_option maxRecDepth 100000 in
theorem open_shift {H : Type} {enc : TypeId × Value → H} {W : World} {r : Reach} {b0 base : Nat} {held : Bool} {v : Value} {dt : DataW H} {ps : List MemPlace} (hval : Value.okWide Try.prog W r b0 46 v) (hd : DataW.Trod enc Try.prog W base (fun _ => true) held 46 v dt ps) :
    ∃ x n ad len cap zs, v = .agg #[.int .i64 x, .int .i64 n, .slice ad len cap] ∧ IsRow .u8 W ad len cap zs := by
  have hc : Try.prog.cellsOf 46 = 3 := by kernel_rfl
  simp only [Value.okWide, Try.underlying46] at hval
  obtain ⟨cs, rfl, _, _⟩ := hval
  obtain ⟨fuel, hf⟩ := hd
  obtain ⟨xs, k, _, hdt, hlen, hxl, hf2⟩ := DataW.trod_struct Try.underlying46 hf
  rw [hc] at hlen
  obtain ⟨l⟩ := cs
  simp only [Value.cells] at hlen hf2
  match l, hlen with
  | [v0, v1, v2], _ =>
    match xs, hxl with
    | [y0, y1, y2], _ =>
      have e3 : Try.prog.cellsOf 3 = 1 := by kernel_rfl
      have es : Try.prog.cellsOf 22 = 1 := by kernel_rfl
      have g0 := hf2 0 _ rfl
      have g1 := hf2 1 _ rfl
      have g2 := hf2 2 _ rfl
      simp [e3] at g0 g1
      simp [es] at g2
      obtain ⟨q0, p0, _, r0⟩ := DataW.trod_int Try.underlying3 g0
      obtain ⟨q1, p1, _, r1⟩ := DataW.trod_int Try.underlying3 g1
      simp at p0 p1
      subst p0 p1
      obtain ⟨d2, ps2⟩ := y2
      obtain ⟨ad, len, cap, zs, rfl, hr⟩ := open_rowB g2
      exact ⟨_, _, _, _, _, _, rfl, hr⟩
end Go.Proofs.Ytdiehfjamnaoiaa
