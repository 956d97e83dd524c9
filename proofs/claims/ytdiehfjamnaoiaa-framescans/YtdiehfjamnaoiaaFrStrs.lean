/-
  Rows of texts that came in.
-/
import Derived.Test.YtdiehfjamnaoiaaFrTx
import Derived.SliceStrings
namespace Go.Proofs.Ytdiehfjamnaoiaa
open Go.RowKit

def IsStrs (w : World) (a : Option Addr) (len cap : Nat) (zs : List ByteArray) : Prop :=
  zs.length = len ∧ Strs w a zs ∧ len ≤ cap ∧ ∀ s ∈ zs, s.size ≤ 9223372036854775807
theorem open_strs {H : Type} {enc : TypeId × Value → H} {W : World} {base : Nat} {sp : Nat → Bool} {held : Bool} {fuel : Nat} {a : Option Addr} {len cap : Nat} {x : DataW H × List MemPlace}
    (h : DataW.trod enc Try.prog W base sp held fuel 31 (Value.cells (.slice a len cap)).toList = some x) : ∃ zs, IsStrs W a len cap zs := by
  rcases ChangeShapes.open_strings Try.underlying31 Try.underlying9 (by kernel_rfl) h with ⟨hcs, _⟩ | ⟨y, l, c, ss, hcs, _, hl, hm, hz, _, hcell, hsz⟩
  · simp [Value.cells] at hcs
    obtain ⟨rfl, rfl, rfl⟩ := hcs
    exact ⟨[], rfl, .inl rfl, Nat.le_refl _, by simp⟩
  · simp [Value.cells] at hcs
    obtain ⟨rfl, rfl, rfl⟩ := hcs
    have hle : len ≤ ss.length := by rw [hz]; split <;> omega
    refine ⟨ss.take len, by simp; omega, ?_, hl, fun s hs => ?_⟩
    · by_cases h0 : len = 0
      · left; simp [h0]
      · right
        have hc0 := hcell 0 (by omega)
        have hx : y.add 0 = y := by simp [Addr.add]
        rw [hx] at hc0
        obtain ⟨b, off, spot⟩ := y
        have hsp : spot = none := by
          cases spot with
          | none => rfl
          | some s => simp [World.cell?] at hc0; split at hc0 <;> simp at hc0
        subst hsp
        refine ⟨b, off, rfl, World.block_lt_of_cell? W _ hc0, fun i hi => ?_⟩
        simp at hi
        have := hcell i (by omega)
        rw [addr_add] at this
        rw [this]
        have hg : ss.getD i ByteArray.empty = ss[i]'(by omega) := by rw [List.getD_eq_getElem?_getD, List.getElem?_eq_getElem (by omega)]; rfl
        rw [hg, List.getElem_take]
    · have := hsz s (List.mem_of_mem_take hs)
      unfold maxLen at this; omega
end Go.Proofs.Ytdiehfjamnaoiaa
